import Derived.Deep.RegionLaw
import Derived.Test.YtlkfakdghjaoaaaGreatDoorJ11
import Derived.Test.YtlkfakdghjaoaaaGreatDoorKids
set_option maxRecDepth 100000
set_option maxHeartbeats 8000000
namespace Go.Proofs.YtlkfakdghjaoaaaGreatDoor
open Go.RowKit Go.Sort Go.Shelf
def fR (ts : List Nat) : List (Nat × Nat) := ((List.range ts.length).map fun k => (k, ts.getD k 0)).reverse
theorem wZ (ts : List Nat) : (fR ts).length = ts.length := by simp [fR]
theorem t8 (ts : List Nat) : (fR ts).map (·.2) = ts.reverse := by
 unfold fR
 rw [List.map_reverse, List.map_map]
 congr 1
 refine List.ext_getElem (by simp) fun i h1 h2 => ?_
 simp only [List.getElem_map, List.getElem_range, Function.comp]
 rw [List.getD_eq_getElem?_getD, List.getElem?_eq_getElem h2]; rfl
theorem Cx {ts : List Nat} {m : Nat} (h : m < ts.length) : (fR ts)[ts.length - (m + 1)]? = some (m, ts[m]) := by
 unfold fR
 rw [List.getElem?_reverse (by simp; omega)]
 simp only [List.length_map, List.length_range]
 rw [show ts.length - 1 - (ts.length - (m + 1)) = m by omega, List.getElem?_map, List.getElem?_range h]
 simp only [Option.map_some]
 rw [List.getD_eq_getElem?_getD, List.getElem?_eq_getElem h]; rfl
section
attribute [local go_sem] Oper.semAt_some
theorem xa (n NB TB cap : Nat) (A : Option Addr) (ts : List Nat) (R : Nat → Prop) (w : World) (hn : 1 ≤ n) (htl : ts.length ≤ 1048576)
  (hTB : w.cell? ⟨TB, 0, none⟩ = some (.slice A ts.length cap)) (hA : PtsI w A NB ts) (hTl : TB < w.heap.size) (hRT : R TB) (hRA : ∀ b off, 0 < ts.length → A = some ⟨b, off, none⟩ → R b) :
  nD Fence.wide n Tryz.prog 196 #[.pointer (some ⟨TB, 0, none⟩)] (fun p : Nat × Nat => #[.int .i64 p.1, ag NB p.2]) R (fun _ => True) (fun pre x => pre ++ [x] <+: fR ts)
   (fun xs => xs = fR ts) (fun pre => pre <+: fR ts) w := by
 intro l J Jx W hW hJ _ hY h0
 have hKW : Keeps R w W := ⟨hW.size, fun k hk _ => hW.block k hk⟩
 have ct := (hW.cell (p := ⟨TB, 0, none⟩) hTl).trans hTB
 have HA := GR hA
 have HY := GR hY
 have HKW := GR hKW
 have HRA := GR hRA
 have HTB := GR hTB
 clear hTB hA hW hY hJ hKW hRA
 refine callsIn_of_wp Tryz.func196 rfl trivial ?_ rfl
 simp only [Tryz.ntmps196, List.size_toArray, List.length_cons, List.length_nil, Nat.reduceAdd, Nat.reduceSub, Array.replicate_succ, Array.replicate_zero, List.push_toArray, List.append_toArray, List.nil_append, List.cons_append]
 gi_wp2_with fail
 gi_loopg [3] ts.length (fun gk iv wr => ∃ (m : Nat) (z : Int), gk = m ∧ iv = .int .i64 z ∧ z = (m : Int) - 1 ∧ m ≤ ts.length ∧ J (fun _ => False) ((fR ts).take (ts.length - m)) wr ∧ Keeps R w wr)
 case atStart => exact ⟨ts.length, _, rfl, rfl, rfl, Nat.le_refl _, by rw [Nat.sub_self]; exact h0, HKW.out⟩
 case round =>
  obtain ⟨m, z, hgk, rfl, hz, hm, hJs, hKR⟩ := hrel
  have hgk' := hgk.symm
  subst hgk'
  cases m with
  | zero =>
   obtain rfl : z = -1 := by omega
   clear hz hgk hm
   have hre : (fR ts).take (ts.length - 0) = fR ts := List.take_of_length_le (by rw [wZ]; omega)
   rw [hre] at hJs
   gi_wp2_with fail
   go_end0
   exact ⟨⟨_, rfl⟩, .inl ⟨_, _, rfl, hJs⟩⟩
  | succ m =>
   obtain rfl : z = (m : Int) := by omega
   clear hz hgk
   have hml : m < ts.length := by omega
   obtain ⟨x, hx⟩ : ∃ x, x = ts[m] := ⟨_, rfl⟩
   obtain ⟨b, off, hAe, hbl, hc⟩ := HA.out (by omega)
   subst hAe
   have hRb := HRA.out b off (by omega) rfl
   have cT : wr.cell? ⟨TB, 0, none⟩ = some (.slice (some ⟨b, off, none⟩) ts.length cap) := (World.cell?_of_block (hKR.2 TB hTl hRT)).trans HTB.out
   have cX : wr.cell? ⟨b, off + m, none⟩ = some (ag NB x) := by
    rw [World.cell?_of_block (hKR.2 b hbl hRb), hc m hml, hx]
   have hpx : (fR ts).take (ts.length - (m + 1)) ++ [(m, x)] = (fR ts).take (ts.length - m) := by
    have h1 := Cx hml
    rw [show ts.length - m = ts.length - (m + 1) + 1 by omega, List.take_add_one, h1, hx]; rfl
   obtain ⟨fn, tmps, assign, body, hy, hRd⟩ := HY.out _ _ (m, x) wr hJs (by rw [hpx]; exact List.take_prefix _ _)
   have hy' : (Instr.yield l #[.int .i64 m, ag NB x]).run Tryz.prog wr = .ok (.round l fn tmps assign body) wr := hy
   have HPX := GR hpx
   have HKR := GR hKR
   clear hy hx hc hpx hJs hKR
   gi_wp2_with fail
   refine hRd.mono ?_
   rintro e W3 (⟨rfl, hJ3, hk3⟩ | ⟨rfl, hJx3⟩)
   ·rw [HPX.out] at hJ3
    have HK3 := GR (HKR.out.trans (hk3.fewer fun b h => .inl h))
    clear hk3 hRd
    gi_wp2_with fail
    gi_roundg m
    case measure => omega
    case rel => exact ⟨m, _, rfl, rfl, by omega, by omega, hJ3, HK3.out⟩
   ·rw [HPX.out] at hJx3
    gi_wp2_with fail
    refine bodyPost_ret (results_none rfl _ _ _) rfl ?_
    exact ⟨⟨_, rfl⟩, .inr ⟨_, List.take_prefix _ _, hJx3⟩⟩
end
theorem xb (v : Value) (w : World) (hv : v.oneCell' = true) :
  Calls Tryz.prog 156 #[v] w fun e w' =>
   e = .returned (.func (.func 196) #[] #[.pointer (some ⟨w.heap.size, 0, none⟩)]) ∧ w' = w.alloc (.cells #[v] 58) := by
 go_enter Tryz.func156, Tryz.ntmps156
 go_wp2
 go_ret
 exact ⟨rfl, rfl⟩
theorem rG {P : Program} {w : World} {ops : Array Oper} {o : Oper} {a : Act} {K : Act → World → Prop} {Q : Exit → Act → World → Prop} {E : Prop}
  (hg : o.guard = none) (s x : Operand) (t : TypeId) (hop : o.op = Op.call { callee := Callee.builtin Builtin.append, args := #[s, x], argTypes := #[t, t] })
  (e : TypeId) (i : TypeInfo) (z : Value) (size : Nat) (ht : P.underlying t = some (.slice e)) (hi : P.info? e = some i) (hz : i.zero = some z) (hsize : i.size = size) (hby : i.bytes ≤ 1024) (hzs : z.cells.size = size)
  (O : Nat → Prop) (v : Value) (k : Nat) (xs : List Value) (hs : a.eval s = v) (hq : Row w e size O v k xs) (ad : Addr) (m c : Nat) (news : List Value) (hx : a.eval x = .slice (some ad) m c) (hl : news.length = m * size)
  (hc : ∀ j u, news[j]? = some u → w.cell? (ad.add j) = some u) (h1c : ∀ u ∈ news, u.oneCell' = true) (b1 : k + m ≤ 1048576) (hm : 0 < m)
  (hK : ∀ v' w', Que w' e size (more O w w') v' (k + m) (xs ++ news) → Turns O w w' → K (a.put o.dst v') w') :
  if Region.wanted o (yielded ops a.tmps) = true then Oper.wp P o a w K Q else E := by
 have hw : Region.wanted o (yielded ops a.tmps) = true := by simp [Region.wanted, hg]
 rw [if_pos hw]
 obtain ⟨v', w', hrun, r1, r2⟩ := lG (P := P) w t o.type e i z size ht hi hz hsize hby hzs O v k xs hq ad m c news hl hc h1c b1 hm
 unfold Oper.wp
 simp [execOp, hop, resolve, invoke, builtin, hs, hx, hrun, Result.andThen]
 exact hK v' w' r1 r2
def Fi (NB WB : Nat) (tv mv : Value) (i k : Nat) (xs : List Value) (O : Nat → Prop) (w : World) (e : Ending) (w' : World) : Prop :=
 e = .returned (.tuple #[]) ∧ ∃ q', Turns (fun b => O b ∨ b = WB) w w' ∧ Blk w' WB 94 #[tv, q', mv] ∧ Row w' 95 1 (more O w w') q' (k + 1) (xs ++ [ag NB i])
theorem Ao (NB OB WB : Nat) (tv q mv : Value) (i k : Nat) (xs : List Value) (O : Nat → Prop) (w : World) (hO : Blk w OB 57 #[.pointer (some ⟨WB, 0, none⟩)]) (hW : Blk w WB 94 #[tv, q, mv])
  (hR : Row w 95 1 O q k xs) (hOO : ¬ O OB) (hOW : ¬ O WB) (hk : k + 1 ≤ 1048576) (hne : OB ≠ WB) :
  Calls Tryz.prog 109 #[ag NB i, .pointer (some ⟨OB, 0, none⟩)] w (Fi NB WB tv mv i k xs O w) := by
 obtain ⟨i0, hi0, hz0, hz1, hz2⟩ := info_parts f7
 have c0 : w.cell? ⟨OB, 0, none⟩ = some (.pointer (some ⟨WB, 0, none⟩)) := hO.cell 0
 have c1 : w.cell? ⟨WB, 1, none⟩ = some q := hW.cell 1
 have f1 := hW.frozen 1
 have hOl := hO.lt
 have hWl := hW.lt
 have HO := GR hO
 have HW := GR hW
 have HROW := GR (show Row (w.drew.alloc (.cells #[ag NB i] 95)) 95 1 O q k xs from
  hR.kept ((Turns.keeps (O := fun _ => False) (Turns.drew _ w) fun _ _ h => h).trans (Turns.keeps (O := fun _ => False) (Turns.alloc _ _ _) fun _ _ h => h)) fun _ _ h => h)
 have HNEW := GR (cell_one_new w.drew (ag NB i) 95)
 clear hO hW hR
 go_enter Tryz.func109, Tryz.ntmps109
 go_wp2_with fail
 go_region_law ((refine rG (by rfl) _ _ _ (by rfl) 95 i0 (.pointer none) 1 Tryz.underlying58 hi0 hz0 hz1 (by rw [hz2]; decide) rfl O q k xs (by rfl) HROW.out ⟨w.heap.size, 0, none⟩ 1 1 [ag NB i] (by rfl) (by rfl) HNEW.out (by simp [Value.oneCell']) (by omega) (by decide) ?_; intro v' w1 hq' hT'; obtain ⟨B', off', cap', rfl, _⟩ := hq'.cells; have k2 : Blk w1 WB 94 #[tv, q, mv] := (hT'.block _ (by simp; omega) hOW).trans (HW.out.drew.alloc _); have k3 : Blk w1 OB 57 #[.pointer (some ⟨WB, 0, none⟩)] := (hT'.block _ (by simp; omega) hOO).trans (HO.out.drew.alloc _); have c2 : w1.cell? ⟨WB, 1, none⟩ = some q := k2.cell 1; have c3 : w1.cell? ⟨OB, 0, none⟩ = some (.pointer (some ⟨WB, 0, none⟩)) := k3.cell 0; have f2 := k2.frozen 1; have HQQ := GR hq'; have HTT := GR hT'; have HK2 := GR k2; clear k2 k3 hq' hT'))
 all_goals
  go_wp2_with fail
  go_end0
  have hsA : (w.alloc (.cells #[ag NB i] 95)).drew.heap.size = w.heap.size + 1 := by simp
  have TA : Turns (fun b => O b ∨ b = WB) w (w.alloc (.cells #[ag NB i] 95)).drew := (Turns.alloc _ w _).trans ((Turns.drew (fun b => O b ∨ b = WB) _).wider fun k hk => .inl hk)
  have TB : Turns (fun b => O b ∨ b = WB) w w1 := TA.trans (HTT.out.wider fun k h => .inl (.inl h))
  have TC := TB.trans ((Turns.setCell (O := fun b => O b ∨ b = WB) (p := ⟨WB, 1, none⟩) (.inr rfl) (.slice (some ⟨B', off', none⟩) (k + 1) cap')).wider fun k h => .inl h)
  have h1s := HTT.out.size
  rw [hsA] at h1s
  refine ⟨rfl, _, TC, by simpa using HK2.out.set_ 1 (.slice (some ⟨B', off', none⟩) (k + 1) cap'), .inr (HQQ.out.kept (Turns.keeps (Turns.setCell (O := fun b => b = WB) (p := ⟨WB, 1, none⟩) rfl _) fun b hb e => ?_) fun b hb h => ?_)⟩
  ·subst e
   rcases hb with hb | hb
   ·exact hOW hb
   ·rw [hsA] at hb; omega
  ·rcases h with h | h
   ·exact .inl h
   ·rw [hsA] at h
    exact .inr ⟨by omega, by simp; omega⟩
end Go.Proofs.YtlkfakdghjaoaaaGreatDoor
namespace Go.Proofs.YtlkfakdghjaoaaaGreatDoor
open Go.RowKit Go.Sort Go.Shelf
theorem lv {g : List Bl} (hv : aa g = true) {m i : Nat} (hr : Rch g [] i) : ∀ (ts s d : List Nat), (∀ t ∈ ts, t ∈ ai g i) → Seen g s → g.length ≤ m + s.length → (∀ x ∈ d, x < g.length) → d.length ≤ s.length →
  Gone g s d (bN (ai g) m (s, d) ts).1 (bN (ai g) m (s, d) ts).2
 | [], s, d, _, hs, _, hd, hl => .refl hs hd hl
 | t :: ts, s, d, hts, hs, hm, hd, hl => by
  rw [kY]
  by_cases ht : t ∈ s
  ·rw [if_pos ht]; exact lv hv hr ts s d (fun x hx => hts x (List.mem_cons_of_mem _ hx)) hs hm hd hl
  ·rw [if_neg ht]
   have G := qn hv (m := m) ht (.step hr (hts t (by simp)) (by simp)) hs hm hd hl
   exact G.trans (lv hv hr ts _ _ (fun x hx => hts x (List.mem_cons_of_mem _ hx)) G.ok (by have := G.pre.length_le; omega) G.lt G.len)
structure Apart (NB : Nat) (g : List Bl) (VB BB OB : Nat) (T : Nat → Prop) : Prop where
 vis : ¬ T VB
 beh : ¬ T BB
 ord : ¬ T OB
 nodes : ∀ i, i < g.length → ¬ T (nb NB i)
structure DfsAt (w : World) (NB : Nat) (g : List Bl) (SB VB BB OB WB : Nat) (tv mv : Value) (T : Nat → Prop) (s d : List Nat) : Prop where
 seen : Blk w SB 212 (fm s)
 vis : Boxed w VB 163 (.func (.func 155) #[] #[.pointer (some ⟨SB, 0, none⟩), .pointer (some ⟨VB, 0, none⟩), .pointer (some ⟨BB, 0, none⟩)])
 beh : Boxed w BB 163 (.func (.func 109) #[] #[.pointer (some ⟨OB, 0, none⟩)])
 ord : Blk w OB 57 #[.pointer (some ⟨WB, 0, none⟩)]
 store : ∃ q, Blk w WB 94 #[tv, q, mv] ∧ Row w 95 1 (fun b => T b ∧ b ≠ SB ∧ b ≠ WB) q d.length (d.reverse.map (ag NB))
 nodes : NodesIn w NB g
 ownS : T SB
 ownW : T WB
 apart : Apart NB g VB BB OB T
 ne : SB ≠ WB
section
variable {NB : Nat} {g : List Bl} {SB VB BB OB WB : Nat} {tv mv : Value}
theorem DfsAt.turn {w w' : World} {T T' O : Nat → Prop} {s d : List Nat} (h : DfsAt w NB g SB VB BB OB WB tv mv T s d) (hT : Turns O w w') (h1 : ∀ b, b < w.heap.size → O b → ¬ T b)
  (h2 : ∀ b, b < w.heap.size → T b → T' b) (hp : Apart NB g VB BB OB T') (ho : Apart NB g VB BB OB O) : DfsAt w' NB g SB VB BB OB WB tv mv T' s d := by
 obtain ⟨q, hq, hr⟩ := h.store
 have k : ∀ b, b < w.heap.size → T b → w'.heap[b]? = w.heap[b]? := fun b hb ht => hT.block b hb fun ho => h1 b hb ho ht
 exact ⟨(k _ h.seen.lt h.ownS).trans h.seen, (hT.block _ h.vis.lt ho.vis).trans h.vis, (hT.block _ h.beh.lt ho.beh).trans h.beh, (hT.block _ h.ord.lt ho.ord).trans h.ord,
  ⟨q, (k _ hq.lt h.ownW).trans hq, hr.kept ⟨hT.size, fun b hb ht => k b hb ht.1⟩ fun b hb ht => ⟨h2 b hb ht.1, ht.2⟩⟩, fun i hi => (hT.block _ (h.nodes i hi).lt (ho.nodes i hi)).trans (h.nodes i hi),
  h2 _ h.seen.lt h.ownS, h2 _ hq.lt h.ownW, hp, h.ne⟩
theorem Apart.none : Apart NB g VB BB OB (fun _ => False) := ⟨id, id, id, fun _ _ => id⟩
theorem DfsAt.below {w w' : World} {T : Nat → Prop} {s d : List Nat} (h : DfsAt w NB g SB VB BB OB WB tv mv T s d) (hb : Below w.heap.size w w') : DfsAt w' NB g SB VB BB OB WB tv mv T s d :=
 h.turn (O := fun _ => False) (T' := T) (Turns.of_below hb) (fun _ _ e => e.elim) (fun _ _ e => e) h.apart .none
theorem DfsAt.wider {w : World} {T T' : Nat → Prop} {s d : List Nat} (h : DfsAt w NB g SB VB BB OB WB tv mv T s d) (h2 : ∀ b, b < w.heap.size → T b → T' b) (hp : Apart NB g VB BB OB T') : DfsAt w NB g SB VB BB OB WB tv mv T' s d :=
 h.turn (O := fun _ => False) (Turns.refl _ w) (fun _ _ e => e.elim) h2 hp .none
theorem DfsAt.begin {w : World} {T : Nat → Prop} {s d : List Nat} (h : DfsAt w NB g SB VB BB OB WB tv mv T s d) (i : Nat) :
  DfsAt (w.setCell ⟨SB, i, none⟩ (.bool true)) NB g SB VB BB OB WB tv mv T (s ++ [i]) d := by
 obtain ⟨q, hq, hr⟩ := h.store
 have o : ∀ b, b ≠ SB → (w.setCell ⟨SB, i, none⟩ (.bool true)).heap[b]? = w.heap[b]? := fun b hb => Below.heap_setCell _ _ _ _ hb
 refine ⟨?_, (o VB fun e => h.apart.vis (e ▸ h.ownS)).trans h.vis, (o BB fun e => h.apart.beh (e ▸ h.ownS)).trans h.beh, (o OB fun e => h.apart.ord (e ▸ h.ownS)).trans h.ord, ⟨q, (o _ (Ne.symm h.ne)).trans hq, hr.kept ⟨by simp, fun b _ ht => o b ht.2.1⟩ fun b _ ht => ht⟩,
  fun j hj => (o (nb NB j) fun e => h.apart.nodes j hj (e ▸ h.ownS)).trans (h.nodes j hj), h.ownS, h.ownW, h.apart, h.ne⟩
 rw [← tR]
 exact h.seen.set_ i (.bool true)
theorem DfsAt.put {w w' : World} {T : Nat → Prop} {s d : List Nat} {q' : Value} {i : Nat} (h : DfsAt w NB g SB VB BB OB WB tv mv T s d) (hT : Turns (fun b => (T b ∧ b ≠ SB ∧ b ≠ WB) ∨ b = WB) w w')
  (hq : Blk w' WB 94 #[tv, q', mv]) (hr : Row w' 95 1 (more (fun b => T b ∧ b ≠ SB ∧ b ≠ WB) w w') q' (d.length + 1) (d.reverse.map (ag NB) ++ [ag NB i])) (hWl : WB < w.heap.size) :
  DfsAt w' NB g SB VB BB OB WB tv mv (more T w w') s (i :: d) := by
 have hap : Apart NB g VB BB OB (fun b => (T b ∧ b ≠ SB ∧ b ≠ WB) ∨ b = WB) :=
  ⟨fun e => h.apart.vis (e.elim (·.1) fun e => e ▸ h.ownW), fun e => h.apart.beh (e.elim (·.1) fun e => e ▸ h.ownW), fun e => h.apart.ord (e.elim (·.1) fun e => e ▸ h.ownW), fun i hi e => h.apart.nodes i hi (e.elim (·.1) fun e => e ▸ h.ownW)⟩
 refine ⟨(hT.block _ h.seen.lt fun e => e.elim (fun e => e.2.1 rfl) h.ne).trans h.seen, (hT.block _ h.vis.lt hap.vis).trans h.vis, (hT.block _ h.beh.lt hap.beh).trans h.beh, (hT.block _ h.ord.lt hap.ord).trans h.ord,
  ⟨q', hq, ?_⟩, fun i hi => (hT.block _ (h.nodes i hi).lt (hap.nodes i hi)).trans (h.nodes i hi), .inl h.ownS, .inl h.ownW,
  ⟨fun e => e.elim h.apart.vis fun e => by have := h.vis.lt; omega, fun e => e.elim h.apart.beh fun e => by have := h.beh.lt; omega, fun e => e.elim h.apart.ord fun e => by have := h.ord.lt; omega, fun i hi e => e.elim (h.apart.nodes i hi) fun e => by have := (h.nodes i hi).lt; omega⟩, h.ne⟩
 rw [List.length_cons, List.reverse_cons, List.map_append]
 refine hr.kept (Keeps.refl _ _) fun b _ hb => ?_
 rcases hb with hb | hb
 ·exact ⟨.inl hb.1, hb.2⟩
 ·exact ⟨.inr hb, by have := h.seen.lt; omega, by omega⟩
end
abbrev Ap (SB VB BB : Nat) : Array Value := #[.pointer (some ⟨SB, 0, none⟩), .pointer (some ⟨VB, 0, none⟩), .pointer (some ⟨BB, 0, none⟩)]
def Cy (NB : Nat) (g : List Bl) (SB VB BB OB WB : Nat) (tv mv : Value) (T : Nat → Prop) (s d : List Nat) (w : World) (e : Ending) (w' : World) : Prop :=
 e = .returned (.tuple #[]) ∧ Turns T w w' ∧ DfsAt w' NB g SB VB BB OB WB tv mv (more T w w') s d
attribute [local go_sem] Oper.semAt_some
theorem ua (NB SB VB BB OB WB : Nat) (tv mv : Value) (g : List Bl) (hv : aa g = true) : ∀ (m i : Nat) (s d : List Nat) (T : Nat → Prop) (w : World), DfsAt w NB g SB VB BB OB WB tv mv T s d → (∀ b, T b → b < w.heap.size) →
  i ∉ s → Rch g [] i → Seen g s → g.length ≤ m + s.length → (∀ x ∈ d, x < g.length) → d.length ≤ s.length →
  Calls Tryz.prog 155 (#[ag NB i] ++ Ap SB VB BB) w (Cy NB g SB VB BB OB WB tv mv T (df (ai g) m i (s, d)).1 (df (ai g) m i (s, d)).2 w)
 | 0, i, s, d, _, _, _, _, hi, hr, hs, hm, _, _ => by
  have := (hs.snoc (hr.lt hv) hi).len
  simp at this; omega
 | m + 1, i, s, d, T, w, h, hTl, hi, hr, hs, hm, hd, hl => by
  have IH := GR (ua NB SB VB BB OB WB tv mv g hv m)
  have h26 := (aj.1 hv).2.1
  have hil := hr.lt hv
  obtain ⟨TT, vv, F2, hdsp⟩ := rv (NB := NB) hv hil
  have x0 : w.cell? ⟨nb NB i, 0, none⟩ = some (.int .i64 i) := by have := (h.nodes i hil).cell 0; simpa using this
  have x2 : w.cell? ⟨nb NB i, 2, none⟩ = some (.iface TT vv) := by have := (h.nodes i hil).cell 2; rw [hdsp.val] at this; simpa using this
  have hlook := hdsp.look
  have hent := hdsp.enter
  have HD := GR hdsp.goes
  have cS : w.cell? ⟨SB, i, none⟩ = some (.bool (decide (i ∈ s))) := (h.seen.cell i).trans (jg _ (by omega))
  have fS := h.seen.frozen i
  have hSl := h.seen.lt
  have i0 : (0 : Int) ≤ (i : Int) := by omega
  have i1 : (i : Int) < 26 := by omega
  have H1 := GR (h.begin i)
  have HT1 := GR (Turns.setCell (O := T) (A := w) (p := ⟨SB, i, none⟩) h.ownS (.bool true))
  have x2' : (w.setCell ⟨SB, i, none⟩ (.bool true)).cell? ⟨nb NB i, 2, none⟩ = some (.iface TT vv) :=
   (World.cell?_of_block (Below.heap_setCell _ _ _ _ (by show nb NB i ≠ SB; intro e; exact h.apart.nodes i hil (e ▸ h.ownS)))).trans x2
  have hs1 : (w.setCell ⟨SB, i, none⟩ (.bool true)).heap.size = w.heap.size := by simp
  have HAP := GR h.apart
  have HVL := GR (show VB < w.heap.size ∧ BB < w.heap.size ∧ OB < w.heap.size ∧ ∀ j, j < g.length → nb NB j < w.heap.size from ⟨h.vis.lt, h.beh.lt, h.ord.lt, fun j hj => (h.nodes j hj).lt⟩)
  have HS := GR (hs.snoc hil hi)
  have HR := GR hr
  have HTL := GR hTl
  have HV := GR hv
  have HDL := GR hd
  have hent2 : ∀ args w, (callFunc 155 args).run Tryz.prog w = .ok (.enter 155 args) w := enters_of Tryz.func155 (by kernel_rfl) rfl
  have hent3 : ∀ args w, (callFunc 109 args).run Tryz.prog w = .ok (.enter 109 args) w := enters_of Tryz.func109 (by kernel_rfl) rfl
  clear hdsp h hTl hi hr hs hd
  refine (callsIn_wide (n := 4)).1 ?_
  refine callsIn_of_wp_marks Tryz.func155 rfl trivial ?_ rfl
  simp only [Tryz.ntmps155, Ap, List.size_toArray, List.length_cons, List.length_nil, Nat.reduceAdd, Nat.reduceSub, Array.replicate_succ, Array.replicate_zero, List.push_toArray, List.append_toArray, List.nil_append, List.cons_append]
  refine wpIn_mono (Q := rR _) ?_ lE
  gi_wp2_with fail
  generalize w.setCell ⟨SB, i, none⟩ (.bool true) = W1 at H1 HT1 x2' hs1 ⊢
  refine ⟨trivial, (callsIn_wide.2 (HD.out W1)).mono ?_⟩
  rintro e W2 ⟨A, rfl, hB2, hrow⟩
  have H2 := GR (H1.out.below hB2)
  have HT2 := GR (HT1.out.trans ((Turns.of_below (O := fun _ => False) hB2).wider fun _ e => e.elim))
  have HROW := GR hrow
  have hs2 := hB2.size
  clear hB2 hrow x0 x2 x2' cS fS hlook hent
  gi_wp2_with fail
  refine ⟨trivial, (callsIn_wide.2 (xb (.slice A (ai g i).length (ai g i).length) W2 rfl)).mono ?_⟩
  rintro e W3 ⟨rfl, hW3⟩
  have hb3 : Below W2.heap.size W2 W3 := by rw [hW3]; exact (Below.refl _ _).alloc (Nat.le_refl _) _
  have hs3 : W3.heap.size ≤ W2.heap.size + 1 := by rw [hW3]; simp
  have hs4 : W2.heap.size + 1 ≤ W3.heap.size := by rw [hW3]; simp
  have kT : Boxed W3 W2.heap.size 58 (.slice A (ai g i).length (ai g i).length) := by rw [hW3]; exact Boxed.new W2 _ _
  have H3 := GR (H2.out.below hb3)
  have HT3 := GR (HT2.out.trans ((Turns.of_below (O := fun _ => False) hb3).wider fun _ e => e.elim))
  have hn2 : (ai g i).length ≤ 2 := by rw [d6 hil]; exact gR HV.out hil
  have hPA : PtsI W3 A NB (ai g i) := fun h => by
   obtain ⟨b, rfl, hb, hk⟩ := HROW.out h
   refine ⟨b, 0, rfl, by have := hk.lt; omega, fun k hk2 => ?_⟩
   rw [Nat.zero_add, (hk.below hb3 hk.lt).cell, List.getElem?_toArray, List.getElem?_map, List.getElem?_eq_getElem hk2]; rfl
  have HSEQ := GR (xa 3 NB W2.heap.size (ai g i).length A (ai g i) (fun b => W1.heap.size ≤ b ∧ b < W3.heap.size) W3 (by decide) (by omega) kT.cell hPA (by omega) ⟨by omega, by omega⟩
   (fun b off h e => by
    obtain ⟨b', e', hb, hk⟩ := HROW.out h
    rw [e] at e'
    simp only [Option.some.injEq, Addr.mk.injEq] at e'
    have := hk.lt
    exact ⟨by omega, by omega⟩))
  have HGO := GR (fun ts (h : ∀ t ∈ ts, t ∈ ai g i) => lv HV.out (m := m) HR.out ts (s ++ [i]) d h HS.out (by simp; omega) HDL.out (by simp; omega))
  clear hW3 hb3 kT hPA
  gi_wp2_with fail
  refine fF rfl (by decide) (gf := 196) (lb := #[.pointer (some ⟨W2.heap.size, 0, none⟩)]) rfl trivial (enters_of Tryz.func196 (by kernel_rfl) rfl) HSEQ.out (Below.refl _ _) (fun _ => rfl) (fun k hk => hk.2)
   (fun O pre W => DfsAt W NB g SB VB BB OB WB tv mv (fun b => T b ∨ (W3.heap.size ≤ b ∧ ¬ O b)) (bN (ai g) m (s ++ [i], d) (pre.map (·.2))).1 (bN (ai g) m (s ++ [i], d) (pre.map (·.2))).2 ∧ Turns T w W ∧ W3.heap.size ≤ W.heap.size)
   (fun _ _ _ => False)
   ?hI (fun _ _ _ _ _ h _ => h) (fun _ _ _ _ => trivial) ?h0
   (fun x => { tmps := #[ag NB i, .pointer (some ⟨SB, 0, none⟩), .pointer (some ⟨VB, 0, none⟩), .pointer (some ⟨BB, 0, none⟩), undef, undef, ag NB x.2, ag NB i,
     .pointer (some ⟨nb NB i, 0, none⟩), .pointer (some ⟨nb NB i, 0, none⟩), .int .i64 i, .pointer (some ⟨SB, i, none⟩), ag NB i, .pointer (some ⟨nb NB i, 0, none⟩), .pointer (some ⟨nb NB i, 2, none⟩),
     .iface TT vv, .slice A (ai g i).length (ai g i).length, .func (.func 196) #[] #[.pointer (some ⟨W2.heap.size, 0, none⟩)], .int .i64 x.1, ag NB x.2, undef,
     undef, undef, undef, undef, undef, undef, undef, undef, undef, undef, undef, undef], defers := [] }) ?assign ?body ?done ?stop
  case hI =>
   rintro O pre X Y hle hO ⟨h1, h2, h3⟩ hT
   have hVL := HVL.out
   refine ⟨h1.turn hT (fun b hb ho h => ?_) (fun b hb h => ?_) ⟨?_, ?_, ?_, ?_⟩ ⟨fun h => ?_, fun h => ?_, fun h => ?_, fun j hj h => ?_⟩, h2.trans (hT.wider fun k hk => ?_), Nat.le_trans h3 hT.size⟩
   ·rcases h with h | h
    ·have := HTL.out b h; have := hO b ho; omega
    ·exact h.2 ho
   ·rcases h with h | h
    ·exact .inl h
    ·exact .inr ⟨h.1, fun e => e.elim h.2 fun e => by omega⟩
   ·exact fun e => e.elim HAP.out.vis fun e => by omega
   ·exact fun e => e.elim HAP.out.beh fun e => by omega
   ·exact fun e => e.elim HAP.out.ord fun e => by omega
   ·exact fun j hj e => e.elim (HAP.out.nodes j hj) fun e => by have := hVL.2.2.2 j hj; omega
   ·have := hO _ h; omega
   ·have := hO _ h; omega
   ·have := hO _ h; omega
   ·have := hO _ h; have := hVL.2.2.2 j hj; omega
   ·have := hO k hk
    exact .inr ⟨by omega, by omega⟩
  case h0 =>
   have hVL := HVL.out
   refine ⟨H3.out.wider (fun b _ h => .inl h) ⟨?_, ?_, ?_, ?_⟩, HT3.out, Nat.le_refl _⟩
   ·exact fun e => e.elim HAP.out.vis fun e => by omega
   ·exact fun e => e.elim HAP.out.beh fun e => by omega
   ·exact fun e => e.elim HAP.out.ord fun e => by omega
   ·exact fun j hj e => e.elim (HAP.out.nodes j hj) fun e => by have := hVL.2.2.2 j hj; omega
  case assign =>
   intro l x W K hK
   gi_wp2
   exact hK
  case body =>
   rintro l O pre ⟨ti, t⟩ W hle2 hO ⟨h1, h2, h3⟩ hx
   have hpre : pre.map (·.2) ++ [t] <+: (ai g i).reverse := by
    have := hx.map (·.2)
    rw [List.map_append, t8] at this; exact this
   have htm : t ∈ ai g i := List.mem_reverse.1 (hpre.subset (by simp))
   have hpm : ∀ y ∈ pre.map (·.2), y ∈ ai g i := fun y hy => List.mem_reverse.1 (hpre.subset (List.mem_append_left _ hy))
   have htl := bP HV.out hil htm
   have G := HGO.out (pre.map (·.2)) hpm
   have hsn := oU (ai g) m (s ++ [i], d) t (pre.map (·.2))
   have hmap : (pre ++ [(ti, t)]).map (·.2) = pre.map (·.2) ++ [t] := by simp
   obtain ⟨vs, hvs⟩ : ∃ v, bN (ai g) m (s ++ [i], d) (pre.map (·.2)) = v := ⟨_, rfl⟩
   obtain ⟨s1, d1⟩ := vs
   rw [hvs] at G hsn h1
   have G : Gone g (s ++ [i]) d s1 d1 := G
   have h1 : DfsAt W NB g SB VB BB OB WB tv mv (fun b => T b ∨ (W3.heap.size ≤ b ∧ ¬ O b)) s1 d1 := h1
   have x0 : W.cell? ⟨nb NB t, 0, none⟩ = some (.int .i64 t) := by have := (h1.nodes t htl).cell 0; simpa using this
   have cS : W.cell? ⟨SB, t, none⟩ = some (.bool (decide (t ∈ s1))) := (h1.seen.cell t).trans (jg _ (by omega))
   have j0 : (0 : Int) ≤ (t : Int) := by omega
   have j1 : (t : Int) < 26 := by omega
   have cV := h1.vis.cell
   have hSl2 := h1.seen.lt
   have H4 := GR h1
   have HT4 := GR h2
   have HMAP := GR hmap
   by_cases hts : t ∈ s1
   ·rw [decide_eq_true hts] at cS
    have HE := GR (hsn.trans (if_pos hts))
    clear hpre htm hpm G hsn hmap hvs h1 h2 hx hts
    gi_wp2_with fail
    refine ⟨Keeps.refl _ _, ?_, HT4.out, h3⟩
    rw [HMAP.out, HE.out]; exact H4.out
   ·rw [decide_eq_false hts] at cS
    have HE := GR (hsn.trans (if_neg hts))
    have hD2 : DfsAt W NB g SB VB BB OB WB tv mv (fun b => (T b ∨ (W3.heap.size ≤ b ∧ ¬ O b)) ∧ b < W.heap.size) s1 d1 :=
     h1.wider (fun b hb h => ⟨h, hb⟩) ⟨fun e => h1.apart.vis e.1, fun e => h1.apart.beh e.1, fun e => h1.apart.ord e.1, fun j hj e => h1.apart.nodes j hj e.1⟩
    have HC := GR (IH.out t s1 d1 _ W hD2 (fun b h => h.2) hts (.step HR.out htm (by simp)) G.ok (by have := G.pre.length_le; simp at this; omega) G.lt G.len)
    clear hpre htm hpm G hsn hmap hvs h1 h2 hx hts hD2
    gi_wp2_with fail
    refine ⟨trivial, ((callsIn_wide.2 HC.out).inRound l).mono ?_⟩
    rintro e W' ⟨rfl, hT', hD'⟩
    have HT5 := GR hT'
    have HD5 := GR hD'
    have h5s := hT'.size
    clear hT' hD'
    gi_wp2_with fail
    refine ⟨HT5.out.keeps fun k h h' => ?_, ?_, HT4.out.trans (HT5.out.wider fun b h => ?_), by omega⟩
    ·obtain ⟨h', _⟩ := h'
     rcases h with h | h
     ·rcases h' with h' | h'
      ·have := HTL.out k h'; omega
      ·omega
     ·rcases h' with h' | h'
      ·have := HTL.out k h'; have := hO k h; omega
      ·exact h'.2 h
    ·rw [HMAP.out, HE.out]
     refine HD5.out.wider (fun b hb h => ?_) H4.out.apart
     rcases h with h | h
     ·exact h.1
     ·exact .inr ⟨by omega, fun ho => by have := hO b ho; omega⟩
    ·rcases h.1 with h' | h'
     ·exact .inl h'
     ·exact .inr ⟨by omega, h.2⟩
  case done =>
   rintro D O xs W rfl hO rfl ⟨h1, h2, h3⟩ hOD hK
   have hvis := ia (ai g) m i (s, d)
   have G := HGO.out (ai g i).reverse fun t ht => List.mem_reverse.1 ht
   obtain ⟨vs, hvs⟩ : ∃ v, bN (ai g) m (s ++ [i], d) (ai g i).reverse = v := ⟨_, rfl⟩
   obtain ⟨s1, d1⟩ := vs
   rw [t8] at h1
   rw [hvs] at G h1
   have hvis : df (ai g) (m + 1) i (s, d) = (s1, i :: d1) := by
    rw [hvis]; show ((bN (ai g) m (s ++ [i], d) (ai g i).reverse).1, i :: (bN (ai g) m (s ++ [i], d) (ai g i).reverse).2) = _; rw [hvs]
   have G : Gone g (s ++ [i]) d s1 d1 := G
   have h1 : DfsAt W NB g SB VB BB OB WB tv mv (fun b => T b ∨ (W3.heap.size ≤ b ∧ ¬ O b)) s1 d1 := h1
   have h1 : DfsAt W NB g SB VB BB OB WB tv mv (fun b => (T b ∨ (W3.heap.size ≤ b ∧ ¬ O b)) ∧ b < W.heap.size) s1 d1 :=
    h1.wider (fun b hb h => ⟨h, hb⟩) ⟨fun e => h1.apart.vis e.1, fun e => h1.apart.beh e.1, fun e => h1.apart.ord e.1, fun j hj e => h1.apart.nodes j hj e.1⟩
   have hd1 : d1.length ≤ 26 := by have := G.len; have := G.ok.len; omega
   have cB := h1.beh.cell
   obtain ⟨q, hq, hrow⟩ := h1.store
   have hOWne : OB ≠ WB := fun e => h1.apart.ord (e ▸ h1.ownW)
   have HP := GR (Ao NB OB WB tv q mv i d1.length (d1.reverse.map (ag NB)) _ W h1.ord hq hrow (fun e => h1.apart.ord e.1) (fun e => e.2.2 rfl) (by omega) hOWne)
   have H4 := GR h1
   have HT4 := GR h2
   have HVIS := GR hvis
   have HK := GR hK
   have hWl := hq.lt
   have hDl := (Array.getElem?_eq_some_iff.1 hK).1
   clear hvis G hvs h1 h2 hq hrow hK
   gi_wp2_with fail
   refine ⟨trivial, (callsIn_wide.2 HP.out).mono ?_⟩
   rintro e W5 ⟨rfl, q', hT5, hq5, hr5⟩
   have h5s := hT5.size
   have hK5 : W5.heap[W3.heap.size]? = some (.deferred (some [])) := (hT5.block _ hDl fun e => by
     rcases e with e | e
     ·rcases e.1.1 with e | e
      ·have := HTL.out _ e; omega
      ·exact e.2 hOD
     ·subst e
      rcases H4.out.ownW.1 with e | e
      ·have := HTL.out _ e; omega
      ·exact e.2 hOD).trans HK.out
   have HD5 := GR (H4.out.put hT5 hq5 hr5 hWl)
   have HT5 := GR hT5
   have HK5 := GR hK5
   clear hT5 hq5 hr5 hK5
   gi_wp2_with fail
   refine ⟨by simp, .inl ⟨_, _, rfl, run_takeDeferred HK5.out, ?_⟩⟩
   have hVL := HVL.out
   have T5 : Turns T w W5 := HT4.out.trans (HT5.out.wider fun b h => by
    rcases h with h | h
    ·rcases h.1.1 with h' | h'
     ·exact .inl h'
     ·exact .inr ⟨by omega, h.1.2⟩
    ·subst h
     rcases H4.out.ownW.1 with h' | h'
     ·exact .inl h'
     ·exact .inr ⟨by omega, hWl⟩)
   have T6 : Turns T w (W5.putObj W3.heap.size (.deferred none)) := T5.trans ((Turns.putObj (O := fun b => b = W3.heap.size) (l := W3.heap.size) rfl _).wider fun b h => .inr ⟨by omega, by omega⟩)
   refine ⟨_, results_none rfl _ _ _, rfl, T6, ?_⟩
   rw [HVIS.out]
   refine HD5.out.turn (Turns.putObj (O := fun b => b = W3.heap.size) (l := W3.heap.size) rfl _) (fun b hb e h => ?_) (fun b hb h => ?_) ⟨fun e => e.elim HAP.out.vis fun e => ?_, fun e => e.elim HAP.out.beh fun e => ?_, fun e => e.elim HAP.out.ord fun e => ?_, fun j hj e => e.elim (HAP.out.nodes j hj) fun e => ?_⟩ ⟨fun e => ?_, fun e => ?_, fun e => ?_, fun j hj e => ?_⟩
   ·subst e
    rcases h with h | h
    ·rcases h.1 with h | h
     ·have := HTL.out _ h; omega
     ·exact h.2 hOD
    ·omega
   ·rcases h with h | h
    ·rcases h.1 with h' | h'
     ·exact .inl h'
     ·exact .inr ⟨by omega, by simpa using hb⟩
    ·exact .inr ⟨by omega, by simpa using hb⟩
   ·omega
   ·omega
   ·omega
   ·have := hVL.2.2.2 j hj; omega
   ·have e' : VB = W3.heap.size := e
    omega
   ·have e' : BB = W3.heap.size := e
    omega
   ·have e' : OB = W3.heap.size := e
    omega
   ·have e' : nb NB j = W3.heap.size := e
    have := hVL.2.2.2 j hj; omega
  case stop =>
   rintro D c pre W _ _ h _
   exact h.elim
end Go.Proofs.YtlkfakdghjaoaaaGreatDoor
namespace Go.Proofs.YtlkfakdghjaoaaaGreatDoor
open Go.RowKit Go.Sort Go.Shelf Go.Maps Go.WideMaps
attribute [local go_sem] Oper.semAt_some
theorem dO (NB : Nat) (g : List Bl) (i t : Nat) (w : World) (hv : aa g = true) (hn : NodesIn w NB g) (hi : i < g.length) (ht : t < g.length) :
  Calls Tryz.prog 117 #[ag NB i, ag NB t] w (fun e w' => e = .returned (jv (au g i) (au g t)) ∧ Below w.heap.size w w') := by
 have k1 := (hn i hi).alloc (.cells #[.int .u8 0, .int .u8 0] 176)
 have k2 := (hn t ht).alloc (.cells #[.int .u8 0, .int .u8 0] 176)
 have e1 := bu hv hi
 have e2 := bu hv ht
 have x1 : (w.alloc (.cells #[.int .u8 0, .int .u8 0] 176)).cell? ⟨nb NB i, 1, none⟩ = some (.string ⟨#[au g i]⟩) := by have := k1.cell 1; rw [e1] at this; simpa using this
 have x2 : (w.alloc (.cells #[.int .u8 0, .int .u8 0] 176)).cell? ⟨nb NB t, 1, none⟩ = some (.string ⟨#[au g t]⟩) := by have := k2.cell 1; rw [e2] at this; simpa using this
 clear k1 k2 e1 e2
 go_enter Tryz.func117, Tryz.ntmps117
 go_wp2_with fail
 have hs : (w.alloc (.cells #[.int .u8 0, .int .u8 0] 176)).heap.size = w.heap.size + 1 := by simp
 have hB := (Below.refl w.heap.size w).alloc (Nat.le_refl _) (.cells #[.int .u8 0, .int .u8 0] 176)
 have kR := Blk.new w 176 #[.int .u8 0, .int .u8 0]
 generalize w.alloc (.cells #[.int .u8 0, .int .u8 0] 176) = W at x1 x2 hs hB kR ⊢
 have r0 := kR.cell 0
 have r1 := kR.cell 1
 have f0 := kR.frozen 0
 have f1 := kR.frozen 1
 go_region
 all_goals
  go_wp2_with fail
 have e1 : ∀ (c : UInt8) (h : 0 < (⟨#[c]⟩ : ByteArray).size), ((⟨#[c]⟩ : ByteArray)[0]'h).toNat = c.toNat := fun _ _ => rfl
 simp only [e1]
 have kS := ((kR.set_ 0 (.int .u8 (au g i).toNat)).set_ 1 (.int .u8 (au g t).toNat)).drew
 have s0 := kS.cell 0
 have s1 := kS.cell 1
 refine bodyPost_ret (v := jv (au g i) (au g t)) (by simp [results, Tryz.results117, go_sem, s0, s1]) rfl ⟨rfl, ?_⟩
 exact ((hB.setCell (p := ⟨w.heap.size, 0, none⟩) (Nat.le_refl _) _).setCell (p := ⟨w.heap.size, 1, none⟩) (Nat.le_refl _) _).drew
theorem TreeIn.only {w w' : World} {tb R : Nat} {V : Value} {S : Nat → Nat} {Pr : Nat → Value} (h : TreeIn w tb V S Pr) (ho : Only R w w') (hne : tb ≠ R) : TreeIn w' tb V S Pr := by
 obtain ⟨cs, hk, hr⟩ := h
 exact ⟨cs, (ho.block _ hne hk.lt).trans hk, hr⟩
structure OrdAt (w : World) (WB tb NB MB : Nat) (A : Option Addr) (cap : Nat) (g : List Bl) (B off tcap : Nat) (S : Nat → Nat) : Prop where
 tree : TreeAt w tb NB g B off tcap S
 store : Blk w WB 94 #[.pointer (some ⟨tb, 0, none⟩), .slice A (ac g).length cap, .map (some MB)]
 row : PtsI w A NB (ac g)
 atTree : tb ≠ MB
 atList : B ≠ MB
 atStore : WB ≠ MB
 atNode : ∀ i, i < g.length → nb NB i ≠ MB
 atRow : ∀ b off, A = some ⟨b, off, none⟩ → b ≠ MB
theorem TreeAt.only {w w' : World} {tb NB R : Nat} {g : List Bl} {B off cap : Nat} {S : Nat → Nat} (h : TreeAt w tb NB g B off cap S) (ho : Only R w w') (h1 : tb ≠ R) (h2 : B ≠ R) (h3 : ∀ i, i < g.length → nb NB i ≠ R) : TreeAt w' tb NB g B off cap S :=
 ⟨h.tree.only ho h1, by have := ho.size; have := h.lt; omega, fun k hk => (ho.cellAt h2 h.lt).trans (h.row k hk), h.small, h.sets, fun i hi => (ho.block _ (h3 i hi) (h.nodes i hi).lt).trans (h.nodes i hi)⟩
section
variable {w w' : World} {WB tb NB MB cap : Nat} {A : Option Addr} {g : List Bl} {B off tcap : Nat} {S : Nat → Nat}
theorem OrdAt.only (h : OrdAt w WB tb NB MB A cap g B off tcap S) (ho : Only MB w w') : OrdAt w' WB tb NB MB A cap g B off tcap S :=
 ⟨h.tree.only ho h.atTree h.atList h.atNode, (ho.block _ h.atStore h.store.lt).trans h.store, fun hp => by
  obtain ⟨b, o, e, hb, hc⟩ := h.row hp
  exact ⟨b, o, e, by have := ho.size; omega, fun k hk => (ho.cellAt (h.atRow b o e) hb).trans (hc k hk)⟩, h.atTree, h.atList, h.atStore, h.atNode, h.atRow⟩
theorem OrdAt.below (h : OrdAt w WB tb NB MB A cap g B off tcap S) (hb : Below w.heap.size w w') : OrdAt w' WB tb NB MB A cap g B off tcap S := h.only (.of_below hb)
theorem OrdAt.at_ (h : OrdAt w WB tb NB MB A cap g B off tcap S) {k : Nat} (hk : k < (ac g).length) : ∃ b o, A = some ⟨b, o, none⟩ ∧ w.cell? ⟨b, o + k, none⟩ = some (ag NB (ac g)[k]) := by
 obtain ⟨b, o, e, _, hc⟩ := h.row (by omega)
 exact ⟨b, o, e, hc k hk⟩
theorem OrdAt.index (h : OrdAt w WB tb NB MB A cap g B off tcap S) {i : Nat} (hi : i < g.length) : w.cell? ⟨nb NB i, 0, none⟩ = some (.int .i64 i) := by
 have := (h.tree.nodes i hi).cell 0
 simpa using this
end
def jA (f : Nat → Nat) : Array Value := ((List.range 26).map fun j => Value.int .i64 (f j)).toArray
theorem p8 (f : Nat → Nat) : (jA f).size = 26 := by simp [jA]
theorem lW (f : Nat → Nat) {j : Nat} (hj : j < 26) : (jA f)[j]? = some (.int .i64 (f j)) := by simp [jA, hj]
theorem Fj (f : Nat → Nat) (t v : Nat) : (jA f).setIfInBounds t (.int .i64 v) = jA (eu f t v) := by
 apply Array.ext_getElem?
 intro j
 rw [Array.getElem?_setIfInBounds, p8]
 by_cases hj : j < 26
 ·rw [lW _ hj, lW _ hj]
  unfold eu
  by_cases e : t = j
  ·subst e; simp [hj]
  ·rw [if_neg e, if_neg (fun h => e h.symm)]
 ·have h1 : (jA f)[j]? = none := Array.getElem?_eq_none (by rw [p8]; omega)
  have h2 : (jA (eu f t v))[j]? = none := Array.getElem?_eq_none (by rw [p8]; omega)
  rw [h1, h2]
  by_cases e : t = j
  ·subst e; simp [hj]
  ·rw [if_neg e]
theorem xc : jA (fun _ => 0) = #[.int .i64 0, .int .i64 0, .int .i64 0, .int .i64 0, .int .i64 0, .int .i64 0, .int .i64 0, .int .i64 0, .int .i64 0, .int .i64 0, .int .i64 0, .int .i64 0, .int .i64 0, .int .i64 0, .int .i64 0, .int .i64 0, .int .i64 0, .int .i64 0, .int .i64 0, .int .i64 0, .int .i64 0, .int .i64 0, .int .i64 0, .int .i64 0, .int .i64 0, .int .i64 0] := rfl
theorem Only.grown2 {R : Nat} {w a a' : World} {row : Option Nat} (h : Only R w a) (hg : a.grownBy a' row) (hr : ∀ k, row = some k → k = R ∨ w.heap.size ≤ k) : Only R w a' :=
 ⟨hg.os.trans h.os, hg.tape.trans h.tape, hg.output.trans h.output, Nat.le_trans h.size hg.size, fun k hk hlt => (hg.block k (Nat.lt_of_lt_of_le hlt h.size) fun e => by
  rcases hr k e.symm with e | e
  ·exact hk e
  ·omega).trans (h.block k hk hlt)⟩
theorem p9 {w u u' : World} {g : List Bl} {MB n : Nat} {P : Nat → Nat → Prop} (hv : aa g = true) (h : KMap w g MB n P) (hn : n ≤ 1048576) {i t : Nat} (hi : i < g.length) (ht : t < g.length) (z : Int) (hz : (aG g i t : Int) = z)
  (h1 : Below w.heap.size w u) (h2 : Below u.heap.size u u') :
  ∃ w', (Instr.mapUpdate 92 (.map (some MB)) (jv (au g i) (au g t)) (.int .i64 z)).run Tryz.prog u' = .ok () w' ∧ KMap w' g MB (n + 1) (fun a b => P a b ∨ (a = i ∧ b = t)) ∧ Only MB w w' := by
 subst hz
 have hl := h.lt
 have h12 := h1.trans (h2.mono h1.size)
 obtain ⟨w', hr, hk, hg⟩ := (h.keep (h12.block MB hl)).put hv hn hi ht
 exact ⟨w', hr, hk, (Only.of_below h12).grown2 hg fun k e => .inl (by cases e; rfl)⟩
abbrev ou (g : List Bl) (k : Nat) (a b : Nat) : Prop := a ∈ (ac g).take k ∧ b ∈ ai g a
abbrev gS (g : List Bl) (k x p : Nat) (a b : Nat) : Prop := ou g k a b ∨ (a = x ∧ b ∈ (ai g x).take p)
theorem Aq (g : List Bl) (a b : Nat) : False ↔ ou g 0 a b := ⟨fun h => h.elim, fun h => absurd h.1 (by simp)⟩
theorem Cz (g : List Bl) (k x a b : Nat) : ou g k a b ↔ gS g k x 0 a b := ⟨.inl, fun h => h.elim id fun h => absurd h.2 (by simp)⟩
theorem ow {g : List Bl} {k x p : Nat} (hp : p < (ai g x).length) (a b : Nat) : (gS g k x p a b ∨ (a = x ∧ b = (ai g x)[p])) ↔ gS g k x (p + 1) a b := by
 unfold gS
 rw [List.take_succ_eq_append_getElem hp, List.mem_append, List.mem_singleton]
 constructor
 ·rintro ((h | h) | h)
  ·exact .inl h
  ·exact .inr ⟨h.1, .inl h.2⟩
  ·exact .inr ⟨h.1, .inr h.2⟩
 ·rintro (h | ⟨h1, h2 | h2⟩)
  ·exact .inl (.inl h)
  ·exact .inl (.inr ⟨h1, h2⟩)
  ·exact .inr ⟨h1, h2⟩
theorem Ar {g : List Bl} {k x p : Nat} (hk : k < (ac g).length) (hx : x = (ac g)[k]) (hp : (ai g x).length ≤ p) (a b : Nat) : gS g k x p a b ↔ ou g (k + 1) a b := by
 unfold gS ou
 rw [List.take_of_length_le hp, List.take_succ_eq_append_getElem hk, List.mem_append, List.mem_singleton, ← hx]
 constructor
 ·rintro (h | ⟨rfl, h⟩)
  ·exact ⟨.inl h.1, h.2⟩
  ·exact ⟨.inr rfl, h⟩
 ·rintro ⟨h | h, h2⟩
  ·exact .inl ⟨h, h2⟩
  ·exact .inr ⟨h, h ▸ h2⟩
theorem D3 {g : List Bl} (hv : aa g = true) {k : Nat} (hk : (ac g).length ≤ k) (a b : Nat) : ou g k a b ↔ (Rch g [] a ∧ b ∈ ai g a) := by
 unfold ou
 rw [List.take_of_length_le hk, aA hv]
theorem uD (WB tb NB MB cap : Nat) (A : Option Addr) (g : List Bl) (B off tcap : Nat) (S : Nat → Nat) (w : World) (hv : aa g = true) (hO : OrdAt w WB tb NB MB A cap g B off tcap S) (hM : KMap w g MB 0 (fun _ _ => False)) :
  Calls Tryz.prog 111 #[.pointer (some ⟨WB, 0, none⟩)] w fun e w' => e = .returned (.tuple #[]) ∧ Only MB w w' ∧ KMap w' g MB 52 (fun i t => Rch g [] i ∧ t ∈ ai g i) := by
 have h26 := (aj.1 hv).2.1
 have hwl := bK hv
 have hws : (ac g).length ≤ 26 := by omega
 have hMl := hM.lt
 have cS1 : (w.alloc (.cells (jA fun _ => 0) 216)).cell? ⟨WB, 1, none⟩ = some (.slice A (ac g).length cap) := ((hO.store).alloc _).cell 1
 have hs1 : (w.alloc (.cells (jA fun _ => 0) 216)).heap.size = w.heap.size + 1 := by simp
 have hb1 := (Below.refl w.heap.size w).alloc (Nat.le_refl _) (.cells (jA fun _ => 0) 216)
 have kP1 := Blk.new w 216 (jA fun _ => 0)
 have HO1 := GR (hO.below hb1)
 have HND := GR (aZ hv)
 have HWL := GR (aX hv)
 have HV := GR hv
 have HM := GR hM
 have HO := GR hO
 have HB1 := GR hb1
 clear hv hO hM hb1 hwl
 go_enter Tryz.func111, Tryz.ntmps111
 rw [xc] at cS1 kP1 hs1 HO1 HB1
 go_wp2_with fail
 rw [← xc] at cS1 kP1 hs1 HO1 HB1 ⊢
 obtain ⟨w1, hw1⟩ : ∃ w1, w1 = w.alloc (.cells (jA fun _ => 0) 216) := ⟨_, rfl⟩
 rw [← hw1] at cS1 kP1 hs1 HO1 HB1 ⊢
 clear hw1
 go_loopw [15] (fun iv wr => ∃ (k : Nat) (f : Nat → Nat), k ≤ (ac g).length ∧ iv = .int .i64 k ∧ Hid (∀ j (h : j < (ac g).length), j < k → f (ac g)[j] = j) ∧ Hid (Blk wr w.heap.size 216 (jA f)) ∧ Hid (Below w.heap.size w wr)) (fun iv _ => (ac g).length - (intOf iv).toNat)
 case atStart => exact ⟨0, fun _ => 0, Nat.zero_le _, rfl, fun j _ h => absurd h (by omega), kP1, HB1.out⟩
 case round =>
  obtain ⟨k, f, hk, rfl, HF, HP, HB⟩ := hrel
  have hO2 := HO.out.below HB.out
  by_cases hlt : k < (ac g).length
  ·obtain ⟨b0, o0, rfl, c0⟩ := hO2.at_ hlt
   obtain ⟨x, hxe⟩ : ∃ x, x = (ac g)[k] := ⟨_, rfl⟩
   rw [← hxe] at c0
   have hxl := HWL.out x (hxe ▸ List.getElem_mem hlt)
   have x0 := hO2.index hxl
   have cP := (HP.out.cell x).trans (lW f (by omega))
   have fP := HP.out.frozen x
   have i0 : (0 : Int) ≤ (x : Int) := by omega
   have i1 : (x : Int) < 26 := by omega
   have i2 : x < 26 := by omega
   have HXE := GR hxe
   clear hxe hO2
   go_wp2_with fail
   have HP2 := GR (show Blk (wr.setCell ⟨w.heap.size, x, none⟩ (.int .i64 k)) w.heap.size 216 (jA (eu f x k)) by rw [← Fj]; exact HP.out.set_ x _)
   have HB2 := GR (HB.out.setCell (p := ⟨w.heap.size, x, none⟩) (Nat.le_refl _) (.int .i64 k))
   go_roundw
   case rel =>
    refine ⟨k + 1, eu f x k, by omega, by go_num, fun j h hj => ?_, HP2.out, HB2.out⟩
    unfold eu
    by_cases e : j = k
    ·subst e; rw [if_pos HXE.out.symm]
    ·rw [if_neg fun e2 => e ((List.getElem_inj HND.out).1 (e2.trans HXE.out)), HF.out j h (by omega)]
   case measure => simp [intOf]; omega
  ·have HF2 := GR (show ∀ i, Rch g [] i → f i = ah g i from fun i hi => by
    have hm := (aA HV.out).2 hi
    have h1 := eB hm
    have h2 := HF.out (bJ (ac g) i) h1 (by omega)
    rw [fx hm] at h2
    exact h2)
   have cS2 : wr.cell? ⟨WB, 1, none⟩ = some (.slice A (ac g).length cap) := hO2.store.cell 1
   have hszr := HB.out.size
   have HO2 := GR hO2
   have HM2 := GR (HM.out.keep (HB.out.block MB hMl))
   obtain ⟨w2, hw2⟩ : ∃ w2, w2 = wr := ⟨_, rfl⟩
   rw [← hw2] at HP HB cS2 hszr HO2 HM2 ⊢
   clear hw2 hO2 kP1 cS1 hs1 HO1 HB1 HF
   go_wp2_with fail
   go_loopw [32] (fun iv wr => ∃ (k : Nat), k ≤ (ac g).length ∧ iv = .int .i64 k ∧ Hid (KMap wr g MB (2 * k) (ou g k)) ∧ Hid (Only MB w2 wr)) (fun iv _ => (ac g).length - (intOf iv).toNat)
   case atStart => exact ⟨0, Nat.zero_le _, rfl, HM2.out.same (Aq g), Only.refl _ _⟩
   case round =>
    obtain ⟨k, hk, rfl, HK, HOL⟩ := hrel
    have hO3 := HO2.out.only HOL.out
    by_cases hlt : k < (ac g).length
    ·obtain ⟨b0, o0, rfl, c0⟩ := hO3.at_ hlt
     obtain ⟨x, hxe⟩ : ∃ x, x = (ac g)[k] := ⟨_, rfl⟩
     rw [← hxe] at c0
     have hxl := HWL.out x (hxe ▸ List.getElem_mem hlt)
     obtain ⟨T, tv, F2, hd⟩ := rv (NB := NB) HV.out hxl
     have x2 : wr.cell? ⟨nb NB x, 2, none⟩ = some (.iface T tv) := by have := (hO3.tree.nodes x hxl).cell 2; rw [hd.val] at this; simpa using this
     have hlook := hd.look
     have hent := hd.enter
     have HDG := GR hd.goes
     have hn2 := iO HV.out hxl
     have HXE := GR hxe
     have HXR := GR ((aA HV.out).1 (hxe ▸ List.getElem_mem hlt : x ∈ ac g))
     have HO3 := GR hO3
     have hszl := HOL.out.size
     clear hd hxe hO3
     go_wp2_with fail
     refine (HDG.out wr).mono ?_
     rintro e w3 ⟨A3, rfl, b3, hrow⟩
     have HR := GR hrow
     have HK3 := GR (HK.out.keep (b3.block MB (by omega)))
     have HOL3 := GR (HOL.out.trans (Only.of_below b3))
     clear hlook hent x2 hrow b3 c0
     go_wp2_with fail
     go_loopw [42] (fun iv wr => ∃ (p : Nat), p ≤ (ai g x).length ∧ iv = .int .i64 p ∧ Hid (KMap wr g MB (2 * k + p) (gS g k x p)) ∧ Hid (Only MB w2 wr) ∧ Hid (Only MB w3 wr)) (fun iv _ => (ai g x).length - (intOf iv).toNat)
     case atStart => exact ⟨0, Nat.zero_le _, rfl, HK3.out.same (Cz g k x), HOL3.out, Only.refl _ _⟩
     case round =>
      obtain ⟨p, hp, rfl, HK4, HO4, HO5⟩ := hrel
      by_cases hpl : p < (ai g x).length
      ·obtain ⟨bb, rfl, hbb, hrowb⟩ := HR.out (by omega)
       obtain ⟨t, hte⟩ : ∃ t, t = (ai g x)[p] := ⟨_, rfl⟩
       have htm : t ∈ ai g x := hte ▸ List.getElem_mem hpl
       have htl := bP HV.out hxl htm
       have htr : Rch g [] t := .step HXR.out htm (by simp)
       have ct : wr.cell? ⟨bb, p, none⟩ = some (ag NB t) := (HO5.out.cellAt (by omega) hrowb.lt).trans (by rw [hrowb.cell, List.getElem?_toArray, List.getElem?_map, List.getElem?_eq_getElem hpl, hte]; rfl)
       have hOR := HO2.out.only HO4.out
       have cit := hOR.index htl
       have cix := hOR.index hxl
       have cpt : wr.cell? ⟨w.heap.size, t, none⟩ = some (.int .i64 (ah g t)) := (HO4.out.cellAt (by omega) HP.out.lt).trans ((HP.out.cell t).trans (by rw [lW f (by omega), HF2.out t htr]))
       have cpx : wr.cell? ⟨w.heap.size, x, none⟩ = some (.int .i64 (ah g x)) := (HO4.out.cellAt (by omega) HP.out.lt).trans ((HP.out.cell x).trans (by rw [lW f (by omega), HF2.out x HXR.out]))
       have HDM := GR (hOR.tree.set HV.out (a := t) HXR.out)
       have HD := GR (fun m => uo tb NB _ S _ g t x (wr.drewN m) (hOR.tree.tree.below (ab wr m)) (hOR.tree.nodes.below (ab wr m)) h26 htl hxl (hOR.tree.small x))
       have ctr : wr.cell? ⟨WB, 0, none⟩ = some (.pointer (some ⟨tb, 0, none⟩)) := hOR.store.cell 0
       obtain ⟨pt, hpt⟩ : ∃ pt, pt = ah g t := ⟨_, rfl⟩
       obtain ⟨px, hpx⟩ : ∃ px, px = ah g x := ⟨_, rfl⟩
       rw [← hpt] at cpt
       rw [← hpx] at cpx
       have HOR := GR hOR
       have HTE := GR hte
       have t0 : (0 : Int) ≤ (t : Int) := by omega
       have t1 : (t : Int) < 26 := by omega
       have t2 : t < 26 := by omega
       have x0 : (0 : Int) ≤ (x : Int) := by omega
       have x1 : (x : Int) < 26 := by omega
       have x2 : x < 26 := by omega
       clear hOR htm hte htr hrowb
       by_cases hle : pt ≤ px
       ·have hleI : (pt : Int) ≤ px := by omega
        have hbk : ¬ ah g x < ah g t := by omega
        by_cases hdm : bU g t x = true
        ·have HKN := GR (show (aG g x t : Int) = 1 by rw [sP hbk hdm]; rfl)
         have HD1 := GR (fun m => (HD.out m).mono fun e w' h => show e = .returned (.bool true) ∧ ∃ n, w' = (wr.drewN m).drewN n by rw [HDM.out, hdm] at h; exact h)
         clear hle
         go_wp2_with fail
         go_quiet (fail)
         go_wp2_with fail
         refine (HD1.out nq).mono ?_
         rintro e w' ⟨rfl, m, rfl⟩
         have HO6 := GR (HOR.out.below ((ab wr nq).trans (ab (wr.drewN nq) m)))
         have HK6 := GR (HK4.out.keep (Below.block ((ab wr nq).trans (ab (wr.drewN nq) m)) MB (by have := HOL.out.size; have := HO4.out.size; omega)))
         have HOA := GR (HO4.out.trans (Only.of_below ((ab wr nq).trans (ab (wr.drewN nq) m))))
         have HOB := GR (HO5.out.trans (Only.of_below ((ab wr nq).trans (ab (wr.drewN nq) m))))
         clear HD1
         obtain ⟨wq, hwq⟩ : ∃ wq, wq = (wr.drewN nq).drewN m := ⟨_, rfl⟩
         rw [← hwq] at HO6 HK6 HOA HOB ⊢
         have HPUT := GR (fun (w' : World) (hb : Below wq.drew.heap.size wq.drew w') => p9 (w := wq) (u := wq.drew) (u' := w') HV.out HK6.out (by omega) hxl htl (1) HKN.out ((Below.refl _ wq).drew) hb)
         have HJ := GR (dO NB g x t wq.drew HV.out HO6.out.tree.nodes hxl htl)
         have c9 : wq.cell? ⟨WB, 2, none⟩ = some (.map (some MB)) := HO6.out.store.cell 2
         have HWL2 := GR HO6.out.store.lt
         clear hwq HK6 HK4 HO4 HO5 HOR ct cit cix cpt cpx ctr HD HDM HO6
         go_wp2_with fail
         go_region_with (go_at_call 117; refine HJ.out.mono ?_; rintro e w' ⟨rfl, hb9⟩; have c10 : w'.cell? ⟨WB, 2, none⟩ = some (.map (some MB)) := (hb9.cell (p := ⟨WB, 2, none⟩) HWL2.out).trans c9; obtain ⟨w9, hrun, hk9, ho9⟩ := HPUT.out w' hb9; have HK9 := GR hk9; have HO9 := GR ho9; clear hb9 hk9 ho9)
         all_goals
          go_wp2_with fail
          go_roundw
          case rel => exact ⟨p + 1, by omega, by go_num, (HK9.out.same (by intro a b; rw [HTE.out]; exact ow hpl a b)), HOA.out.trans HO9.out, HOB.out.trans HO9.out⟩
          case measure => simp [intOf]; omega
        ·have hdm : bU g t x = false := by simpa using hdm
         have HKN := GR (show (aG g x t : Int) = 2 by rw [sQ hbk hdm]; rfl)
         have HD1 := GR (fun m => (HD.out m).mono fun e w' h => show e = .returned (.bool false) ∧ ∃ n, w' = (wr.drewN m).drewN n by rw [HDM.out, hdm] at h; exact h)
         clear hle
         go_wp2_with fail
         go_quiet (fail)
         go_wp2_with fail
         refine (HD1.out nq).mono ?_
         rintro e w' ⟨rfl, m, rfl⟩
         have HO6 := GR (HOR.out.below ((ab wr nq).trans (ab (wr.drewN nq) m)))
         have HK6 := GR (HK4.out.keep (Below.block ((ab wr nq).trans (ab (wr.drewN nq) m)) MB (by have := HOL.out.size; have := HO4.out.size; omega)))
         have HOA := GR (HO4.out.trans (Only.of_below ((ab wr nq).trans (ab (wr.drewN nq) m))))
         have HOB := GR (HO5.out.trans (Only.of_below ((ab wr nq).trans (ab (wr.drewN nq) m))))
         clear HD1
         obtain ⟨wq, hwq⟩ : ∃ wq, wq = (wr.drewN nq).drewN m := ⟨_, rfl⟩
         rw [← hwq] at HO6 HK6 HOA HOB ⊢
         have HPUT := GR (fun (w' : World) (hb : Below wq.drew.heap.size wq.drew w') => p9 (w := wq) (u := wq.drew) (u' := w') HV.out HK6.out (by omega) hxl htl (2) HKN.out ((Below.refl _ wq).drew) hb)
         have HJ := GR (dO NB g x t wq.drew HV.out HO6.out.tree.nodes hxl htl)
         have c9 : wq.cell? ⟨WB, 2, none⟩ = some (.map (some MB)) := HO6.out.store.cell 2
         have HWL2 := GR HO6.out.store.lt
         clear hwq HK6 HK4 HO4 HO5 HOR ct cit cix cpt cpx ctr HD HDM HO6
         go_wp2_with fail
         go_region_with (go_at_call 117; refine HJ.out.mono ?_; rintro e w' ⟨rfl, hb9⟩; have c10 : w'.cell? ⟨WB, 2, none⟩ = some (.map (some MB)) := (hb9.cell (p := ⟨WB, 2, none⟩) HWL2.out).trans c9; obtain ⟨w9, hrun, hk9, ho9⟩ := HPUT.out w' hb9; have HK9 := GR hk9; have HO9 := GR ho9; clear hb9 hk9 ho9)
         all_goals
          go_wp2_with fail
          go_roundw
          case rel => exact ⟨p + 1, by omega, by go_num, (HK9.out.same (by intro a b; rw [HTE.out]; exact ow hpl a b)), HOA.out.trans HO9.out, HOB.out.trans HO9.out⟩
          case measure => simp [intOf]; omega
       ·have hleI : ¬ (pt : Int) ≤ px := by omega
        have HKN := GR (show (aG g x t : Int) = 0 by rw [gL (by omega)]; rfl)
        clear hle
        go_wp2_with fail
        go_quiet (fail)
        have HO6 := GR (HOR.out.below (ab wr nq))
        have HK6 := GR (HK4.out.keep (Below.block (ab wr nq) MB (by have := HOL.out.size; have := HO4.out.size; omega)))
        have HOA := GR (HO4.out.trans (Only.of_below (ab wr nq)))
        have HOB := GR (HO5.out.trans (Only.of_below (ab wr nq)))
        obtain ⟨wq, hwq⟩ : ∃ wq, wq = wr.drewN nq := ⟨_, rfl⟩
        rw [← hwq] at HO6 HK6 HOA HOB ⊢
        have HPUT := GR (fun (w' : World) (hb : Below wq.drew.heap.size wq.drew w') => p9 (w := wq) (u := wq.drew) (u' := w') HV.out HK6.out (by omega) hxl htl (0) HKN.out ((Below.refl _ wq).drew) hb)
        have HJ := GR (dO NB g x t wq.drew HV.out HO6.out.tree.nodes hxl htl)
        have c9 : wq.cell? ⟨WB, 2, none⟩ = some (.map (some MB)) := HO6.out.store.cell 2
        have HWL2 := GR HO6.out.store.lt
        clear hwq HK6 HK4 HO4 HO5 HOR ct cit cix cpt cpx ctr HD HDM HO6
        go_wp2_with fail
        go_region_with (go_at_call 117; refine HJ.out.mono ?_; rintro e w' ⟨rfl, hb9⟩; have c10 : w'.cell? ⟨WB, 2, none⟩ = some (.map (some MB)) := (hb9.cell (p := ⟨WB, 2, none⟩) HWL2.out).trans c9; obtain ⟨w9, hrun, hk9, ho9⟩ := HPUT.out w' hb9; have HK9 := GR hk9; have HO9 := GR ho9; clear hb9 hk9 ho9)
        all_goals
         go_wp2_with fail
         go_roundw
         case rel => exact ⟨p + 1, by omega, by go_num, (HK9.out.same (by intro a b; rw [HTE.out]; exact ow hpl a b)), HOA.out.trans HO9.out, HOB.out.trans HO9.out⟩
         case measure => simp [intOf]; omega
      ·go_wp2_with fail
       go_roundw
       case rel => exact ⟨k + 1, by omega, by go_num, (HK4.out.mono (by omega)).same (Ar hlt HXE.out (by omega)), HO4.out⟩
       case measure => simp [intOf]; omega
    ·have HKE := GR ((HK.out.mono (n' := 52) (by omega)).same (D3 HV.out (by omega)))
     have HOE := GR ((Only.of_below (R := MB) HB.out).trans HOL.out)
     go_wp2_with fail
     go_end0
     exact ⟨rfl, HOE.out, HKE.out⟩
end Go.Proofs.YtlkfakdghjaoaaaGreatDoor
namespace Go.Proofs.YtlkfakdghjaoaaaGreatDoor
open Go.RowKit Go.Sort Go.Shelf Go.Maps Go.WideMaps
attribute [local go_sem] Oper.semAt_some
theorem As : fm [] = #[.bool false, .bool false, .bool false, .bool false, .bool false, .bool false, .bool false, .bool false, .bool false, .bool false, .bool false, .bool false, .bool false, .bool false, .bool false, .bool false, .bool false, .bool false, .bool false, .bool false, .bool false, .bool false, .bool false, .bool false, .bool false, .bool false] := rfl
def D4 (NB WB : Nat) (g : List Bl) (tv mv : Value) (w : World) (e : Ending) (w' : World) : Prop :=
 e = .returned (.tuple #[]) ∧ Only WB w w' ∧ ∃ q, Blk w' WB 94 #[tv, q, mv] ∧ Row w' 95 1 (fun b => w.heap.size ≤ b) q (ac g).length ((ac g).reverse.map (ag NB))
theorem uE (NB OB WB : Nat) (tv mv : Value) (g : List Bl) (w : World) (hv : aa g = true) (hN : NodesIn w NB g) (hO : Blk w OB 57 #[.pointer (some ⟨WB, 0, none⟩)])
  (hW : Blk w WB 94 #[tv, .slice none 0 0, mv]) (hOW : OB ≠ WB) (hNW : ∀ i, i < g.length → nb NB i ≠ WB) :
  Calls Tryz.prog 108 #[ag NB 0, .func (.func 109) #[] #[.pointer (some ⟨OB, 0, none⟩)]] w (D4 NB WB g tv mv w) := by
 have hent2 : ∀ args w, (callFunc 155 args).run Tryz.prog w = .ok (.enter 155 args) w := enters_of Tryz.func155 (by kernel_rfl) rfl
 have HV := GR hv
 have HN := GR hN
 have HO := GR hO
 have HW := GR hW
 clear hv hN hO hW
 go_enter Tryz.func108, Tryz.ntmps108
 go_wp2_with fail
 obtain ⟨W1, hW1⟩ : ∃ W1, W1 = w.alloc (.cells #[.func (.func 109) #[] #[.pointer (some ⟨OB, 0, none⟩)]] 163) := ⟨_, rfl⟩
 rw [← hW1]
 have s1 : W1.heap.size = w.heap.size + 1 := by rw [hW1]; simp
 have b1 : Below w.heap.size w W1 := by rw [hW1]; exact (Below.refl _ _).alloc (Nat.le_refl _) _
 have k1 : Boxed W1 w.heap.size 163 (.func (.func 109) #[] #[.pointer (some ⟨OB, 0, none⟩)]) := by rw [hW1]; exact Boxed.new w _ _
 clear hW1
 rw [← As]
 obtain ⟨W2, hW2⟩ : ∃ W2, W2 = W1.alloc (.cells (fm []) 212) := ⟨_, rfl⟩
 rw [← hW2]
 have s2 : W2.heap.size = w.heap.size + 1 + 1 := by rw [hW2]; simp [s1]
 have b2 : Below W1.heap.size W1 W2 := by rw [hW2]; exact (Below.refl _ _).alloc (Nat.le_refl _) _
 have k2 : Blk W2 (w.heap.size + 1) 212 (fm []) := by rw [hW2, ← s1]; exact Blk.new W1 _ _
 clear hW2
 obtain ⟨W3, hW3⟩ : ∃ W3, W3 = W2.alloc (.cells #[.func (.func 155) #[] (Ap (w.heap.size + 1) (w.heap.size + 1 + 1) w.heap.size)] 163) := ⟨_, rfl⟩
 rw [← hW3]
 have s3 : W3.heap.size = w.heap.size + 1 + 1 + 1 := by rw [hW3]; simp [s2]
 have b3 : Below W2.heap.size W2 W3 := by rw [hW3]; exact (Below.refl _ _).alloc (Nat.le_refl _) _
 have k3 : Boxed W3 (w.heap.size + 1 + 1) 163 (.func (.func 155) #[] (Ap (w.heap.size + 1) (w.heap.size + 1 + 1) w.heap.size)) := by rw [hW3, ← s2]; exact Boxed.new W2 _ _
 clear hW3
 have b12 := b1.trans (b2.mono b1.size)
 have b13 := b12.trans (b3.mono b12.size)
 have hWl := HW.out.lt
 have hOl := HO.out.lt
 have D0 : DfsAt W3 NB g (w.heap.size + 1) (w.heap.size + 1 + 1) w.heap.size OB WB tv mv (fun b => b = w.heap.size + 1 ∨ b = WB) [] [] := by
  refine ⟨(b3.block _ k2.lt).trans k2, k3, (b3.block _ (by omega)).trans ((b2.block _ k1.lt).trans k1), (b13.block _ hOl).trans HO.out, ⟨_, (b13.block _ hWl).trans HW.out, Row.nil _ _ _ _⟩, HN.out.below b13, .inl rfl, .inr rfl, ⟨?_, ?_, ?_, fun i hi => ?_⟩, by omega⟩
  ·rintro (e | e)
   ·omega
   ·omega
  ·rintro (e | e)
   ·omega
   ·omega
  ·rintro (e | e)
   ·omega
   ·exact hOW e
  ·have := (HN.out i hi).lt
   rintro (e | e)
   ·omega
   ·exact hNW i hi e
 have hr0 : Rch g [] 0 := .start (by simp)
 have HVIS := ua NB (w.heap.size + 1) (w.heap.size + 1 + 1) w.heap.size OB WB tv mv g HV.out g.length 0 [] [] _ W3 D0 (by intro b hb; rcases hb with rfl | rfl <;> omega) (by simp) hr0 ⟨.nil, by simp⟩ (by simp) (by simp) (by simp)
 refine HVIS.mono ?_
 rintro e W4 ⟨rfl, hT4, hD4⟩
 have HB13 := GR b13
 have HT4 := GR hT4
 have HD4 := GR hD4
 clear hT4 hD4 HVIS D0 b1 b2 b3 b12 b13 k1 k2 k3
 go_wp2_with fail
 go_end0
 refine ⟨rfl, ?_, ?_⟩
 ·have hB := HB13.out
  have hT := HT4.out
  refine ⟨hT.os.trans hB.os, hT.tape.trans hB.tape, hT.output.trans hB.output, Nat.le_trans hB.size hT.size, fun k hk hl => (hT.block k (by omega) ?_).trans (hB.block k hl)⟩
  rintro (e | e)
  ·omega
  ·exact hk e
 ·obtain ⟨q, hq, hr⟩ := HD4.out.store
  refine ⟨q, hq, hr.kept (Keeps.refl _ _) fun k _ h => ?_⟩
  obtain ⟨h1 | h1, h2, h3⟩ := h
  ·rcases h1 with h1 | h1
   ·exact absurd h1 h2
   ·exact absurd h1 h3
  ·omega
def CA (w : World) (g : List Bl) (e : Ending) (w' : World) : Prop :=
 ∃ WB tb NB MB A cap B off tcap S, w.heap.size ≤ WB ∧ e = .returned (.tuple #[.pointer (some ⟨WB, 0, none⟩), .bool true]) ∧ OrdAt w' WB tb NB MB A cap g B off tcap S ∧ KMap w' g MB 52 (fun i t => Rch g [] i ∧ t ∈ ai g i) ∧ Below w.heap.size w w'
def yc (w : World) (e : Ending) (w' : World) : Prop :=
 ∃ WB tb mv, e = .returned (.tuple #[.pointer (some ⟨WB, 0, none⟩), .bool false]) ∧ Blk w' WB 94 #[.pointer (some ⟨tb, 0, none⟩), .slice none 0 0, mv] ∧ TreeIn w' tb (.slice none 0 0) (fun _ => 0) (fun _ => .pointer none) ∧ Below w.heap.size w w'
theorem fu (A : Option Addr) (cap : Nat) (g : List Bl) (w : World) (hg : Gr w A g) (hn : g.length + aO g ≤ 1048576) (hv : aa g = false) :
  Calls Tryz.prog 64 #[.slice A g.length cap] w (yc w) := by
 have HC := GR (Cv A cap g w hg hn hv)
 clear hv
 have hmm := @run_makeMap Tryz.prog
 go_enter Tryz.func64, Tryz.ntmps64
 go_wp2_with fail
 refine HC.out.mono ?_
 rintro e w1 ⟨tb, rfl, hT1, b1⟩
 have HT1 := GR hT1
 have HB1 := GR b1
 clear hT1 b1
 go_wp2_with fail
 obtain ⟨W2, hW2⟩ : ∃ W2, W2 = w1.alloc (.map #[] 0) := ⟨_, rfl⟩
 rw [← hW2]
 have s2 : W2.heap.size = w1.heap.size + 1 := by rw [hW2]; simp
 have b2 : Below w1.heap.size w1 W2 := by rw [hW2]; exact (Below.refl _ _).alloc (Nat.le_refl _) _
 obtain ⟨W3, hW3⟩ : ∃ W3, W3 = W2.alloc (.cells #[.pointer (some ⟨tb, 0, none⟩), .slice none 0 0, .map (some w1.heap.size)] 94) := ⟨_, rfl⟩
 rw [← hW3]
 have b3 : Below W2.heap.size W2 W3 := by rw [hW3]; exact (Below.refl _ _).alloc (Nat.le_refl _) _
 have k3 : Blk W3 (w1.heap.size + 1) 94 #[.pointer (some ⟨tb, 0, none⟩), .slice none 0 0, .map (some w1.heap.size)] := by rw [hW3, ← s2]; exact Blk.new W2 _ _
 have b13 := b2.trans (b3.mono b2.size)
 have b14 := b13.alloc b13.size (.cells #[.pointer (some ⟨w1.heap.size + 1, 0, none⟩)] 57)
 go_ret2
 exact ⟨_, tb, _, rfl, k3.alloc _, HT1.out.below b14, HB1.out.trans (b14.mono HB1.out.size)⟩
theorem ef (A : Option Addr) (cap : Nat) (g : List Bl) (w : World) (hg : Gr w A g) (hn : g.length + aO g ≤ 1048576) (hv : aa g = true) :
  Calls Tryz.prog 64 #[.slice A g.length cap] w (CA w g) := by
 have HC := GR (An A cap g w hg hn hv)
 have HV := GR hv
 have hpos : 0 < (am g).length := List.length_pos_of_mem ((aU hv).2 (.start (by simp)))
 have h0 : (am g)[0]'hpos = 0 := by
  obtain ⟨k, hk, e⟩ := List.getElem_of_mem ((aU hv).2 (.start (by simp) : Rch g [] 0))
  rcases Nat.eq_zero_or_pos k with rfl | hk0
  ·exact e
  ·have := List.pairwise_iff_getElem.1 (n4 g) 0 k (by omega) hk hk0
   omega
 have H0 := GR h0
 have hwl := bK hv
 have h26 := (aj.1 hv).2.1
 clear hv h0
 have hent3 : ∀ args w, (callFunc 109 args).run Tryz.prog w = .ok (.enter 109 args) w := enters_of Tryz.func109 (by kernel_rfl) rfl
 have hmm := @run_makeMap Tryz.prog
 go_enter Tryz.func64, Tryz.ntmps64
 go_wp2_with fail
 refine HC.out.mono ?_
 rintro e w1 ⟨tb, NB, B, off, tcap, S, htb, rfl, hT1, b1⟩
 have c0 : w1.cell? ⟨tb, 0, none⟩ = some (.slice (some ⟨B, off, none⟩) (am g).length tcap) := hT1.tree.nodes
 have c1 : w1.cell? ⟨B, off, none⟩ = some (ag NB 0) := by have := hT1.row 0 hpos; rw [H0.out] at this; simpa using this
 have htl : tb < w1.heap.size := by obtain ⟨cs, hk, _⟩ := hT1.tree; exact hk.lt
 have hBl := hT1.lt
 have hposI : (0 : Int) < (am g).length := by omega
 have hbW := (((Below.refl w1.heap.size w1).alloc (Nat.le_refl _) (.map #[] 0)).alloc (by simp) (.cells #[.pointer (some ⟨tb, 0, none⟩), .slice none 0 0, .map (some w1.heap.size)] 94)).alloc (by simp; omega) (.cells #[.pointer (some ⟨w1.heap.size + 1, 0, none⟩)] 57)
 have d0 := (hbW.cell (p := ⟨tb, 0, none⟩) htl).trans c0
 have d1 := (hbW.cell (p := ⟨B, off, none⟩) hBl).trans c1
 have HT1 := GR hT1
 have HB1 := GR b1
 have hs1 := b1.size
 clear hT1 b1 c0 c1
 go_wp2_with fail
 have sM := KMap.start w1 g
 obtain ⟨W2, hW2⟩ : ∃ W2, W2 = w1.alloc (.map #[] 0) := ⟨_, rfl⟩
 rw [← hW2] at sM ⊢
 have s2 : W2.heap.size = w1.heap.size + 1 := by rw [hW2]; simp
 have b2 : Below w1.heap.size w1 W2 := by rw [hW2]; exact (Below.refl _ _).alloc (Nat.le_refl _) _
 obtain ⟨W3, hW3⟩ : ∃ W3, W3 = W2.alloc (.cells #[.pointer (some ⟨tb, 0, none⟩), .slice none 0 0, .map (some w1.heap.size)] 94) := ⟨_, rfl⟩
 rw [← hW3]
 have s3 : W3.heap.size = w1.heap.size + 1 + 1 := by rw [hW3]; simp [s2]
 have b3 : Below W2.heap.size W2 W3 := by rw [hW3]; exact (Below.refl _ _).alloc (Nat.le_refl _) _
 have k3 : Blk W3 (w1.heap.size + 1) 94 #[.pointer (some ⟨tb, 0, none⟩), .slice none 0 0, .map (some w1.heap.size)] := by rw [hW3, ← s2]; exact Blk.new W2 _ _
 obtain ⟨W4, hW4⟩ : ∃ W4, W4 = W3.alloc (.cells #[.pointer (some ⟨w1.heap.size + 1, 0, none⟩)] 57) := ⟨_, rfl⟩
 rw [← hW4]
 have s4 : W4.heap.size = w1.heap.size + 1 + 1 + 1 := by rw [hW4]; simp [s3]
 have b4 : Below W3.heap.size W3 W4 := by rw [hW4]; exact (Below.refl _ _).alloc (Nat.le_refl _) _
 have k4 : Blk W4 (w1.heap.size + 1 + 1) 57 #[.pointer (some ⟨w1.heap.size + 1, 0, none⟩)] := by rw [hW4, ← s3]; exact Blk.new W3 _ _
 have k34 : Blk W4 (w1.heap.size + 1) 94 #[.pointer (some ⟨tb, 0, none⟩), .slice none 0 0, .map (some w1.heap.size)] := (b4.block _ k3.lt).trans k3
 have b24 := b3.trans (b4.mono b3.size)
 have b14 := b2.trans (b24.mono b2.size)
 have sM4 := sM.keep (b24.block w1.heap.size (by omega))
 have hnl : ∀ i, i < g.length → nb NB i < w1.heap.size := fun i hi => (HT1.out.nodes i hi).lt
 clear hW2 hW3 hW4 d0 d1 hbW sM b2 b3 b4 k3
 refine (uE NB (w1.heap.size + 1 + 1) (w1.heap.size + 1) _ _ g W4 HV.out (HT1.out.nodes.below b14) k4 k34 (by omega) (fun i hi => by have := hnl i hi; omega)).mono ?_
 rintro e W5 ⟨rfl, hO5, q, hq5, hr5⟩
 have h0w : ac g ≠ [] := by
  obtain ⟨D, e, _⟩ := gA HV.out
  rw [e]; simp
 have hQ : Que W5 95 1 (fun b => W4.heap.size ≤ b) q (ac g).length ((ac g).reverse.map (ag NB)) := by
  rcases hr5 with ⟨_, h, _⟩ | h
  ·exact absurd (List.eq_nil_of_length_eq_zero h) h0w
  ·exact h
 obtain ⟨Bq, oq, cq, cs, rfl, hle, hbq, hsq, hoq, hxq, hcq⟩ := hQ
 have hBq : Blk W5 Bq 95 cs := hbq
 have k45 : Blk W5 (w1.heap.size + 1 + 1) 57 #[.pointer (some ⟨w1.heap.size + 1, 0, none⟩)] := (hO5.block _ (by omega) k4.lt).trans k4
 have e0 := k45.cell 0
 have e1 := hq5.cell 1
 have hH : Holds (ag NB) W5 Bq oq (ac g).reverse.toArray := by
  intro j hj
  have hj' : j < (ac g).reverse.length := by simpa using hj
  refine ⟨?_, hBq.frozen _⟩
  rw [hBq.cell, hcq j (by rw [List.length_map]; exact hj'), List.getElem?_map, List.getElem?_eq_getElem hj']
  rw [getElem!_pos _ j hj]; simp
 have HREV : Hid (Calls Tryz.prog 110 #[.slice (some ⟨Bq, oq, none⟩) (ac g).length cq] W5 (fun e w' => e = .returned (.tuple #[]) ∧ ∃ n, w' = putRow (ag NB) (Go.Sort.ahead W5 n) Bq oq (ac g).toArray)) := by
  have h := AnyE.slices_Reverse Tryz.revNodes (ag NB) (fun _ => rfl) Bq oq cq (ac g).reverse W5 hH (by simp; omega)
  rw [List.length_reverse, List.reverse_reverse] at h
  exact h
 have HH := GR hH
 have HO5 := GR hO5
 have HQ5 := GR hq5
 have HK45 := GR k45
 have HSM4 := GR sM4
 have HB14 := GR b14
 have hs5 := hO5.size
 have hBql := hBq.lt
 clear hr5 hle hbq hsq hxq hcq hBq k45 hH hO5 hq5 sM4 b14 b24 k4 k34 h0w
 go_wp2_with fail
 refine HREV.out.mono ?_
 rintro e W6 ⟨rfl, m, hW6⟩
 have hb6 : ∀ k, k ≠ Bq → W6.heap[k]? = W5.heap[k]? := fun k hk => by
  rw [hW6]
  show ((Go.Sort.ahead W5 m).heap.modify Bq _)[k]? = W5.heap[k]?
  rw [Array.getElem?_modify, if_neg (Ne.symm hk)]; rfl
 have hs6 : W6.heap.size = W5.heap.size := by
  rw [hW6]
  show ((Go.Sort.ahead W5 m).heap.modify Bq _).size = _
  rw [Array.size_modify]; rfl
 have hO6 : Only Bq W5 W6 := by
  rw [hW6] at hb6 hs6 ⊢
  exact ⟨rfl, rfl, rfl, Nat.le_of_eq hs6.symm, fun k hk _ => hb6 k hk⟩
 have hrow6 : ∀ k (hk : k < (ac g).length), W6.cell? ⟨Bq, oq + k, none⟩ = some (ag NB (ac g)[k]) := fun k hk => by
  have hh := holds_putRow (ag NB) (Go.Sort.ahead W5 m) Bq oq (ac g).reverse.toArray (ac g).toArray (fun j hj => HH.out j hj) (by simp)
  have := (hh k (by simpa using hk)).1
  rw [hW6, this]
  congr 2
  rw [getElem!_pos (ac g).toArray k (by simpa using hk)]; simp
 have hT6 : TreeAt W6 tb NB g B off tcap S := (((HT1.out.below HB14.out).only HO5.out (by omega) (by omega) (fun i hi => by have := hnl i hi; omega)).only hO6 (by omega) (by omega) (fun i hi => by have := hnl i hi; omega))
 have hWO6 : OrdAt W6 (w1.heap.size + 1) tb NB w1.heap.size (some ⟨Bq, oq, none⟩) cq g B off tcap S :=
  ⟨hT6, (hO6.block _ (by omega) HQ5.out.lt).trans HQ5.out, fun _ => ⟨Bq, oq, rfl, by omega, hrow6⟩, by omega, by omega, by omega, fun i hi => by have := hnl i hi; omega, fun b o e => by
   simp only [Option.some.injEq, Addr.mk.injEq] at e; omega⟩
 have hM6 : KMap W6 g w1.heap.size 0 (fun _ _ => False) := (HSM4.out.keep (HO5.out.block _ (by omega) (by omega))).keep (hb6 _ (by omega))
 have HTELL := GR (uD (w1.heap.size + 1) tb NB w1.heap.size cq (some ⟨Bq, oq, none⟩) g B off tcap S W6 HV.out hWO6 hM6)
 have k46 : Blk W6 (w1.heap.size + 1 + 1) 57 #[.pointer (some ⟨w1.heap.size + 1, 0, none⟩)] := (hb6 _ (by omega)).trans HK45.out
 have e2 := k46.cell 0
 have HWO6 := GR hWO6
 have HO6 := GR hO6
 have HK46 := GR k46
 clear hb6 hO6 hrow6 hT6 hWO6 hM6 k46 e0 e1 hW6
 go_wp2_with fail
 refine HTELL.out.mono ?_
 rintro e W7 ⟨rfl, hO7, hK7⟩
 have k47 : Blk W7 (w1.heap.size + 1 + 1) 57 #[.pointer (some ⟨w1.heap.size + 1, 0, none⟩)] := (hO7.block _ (by omega) HK46.out.lt).trans HK46.out
 have e3 := k47.cell 0
 have HO7 := GR hO7
 have HK7 := GR hK7
 clear hO7 hK7 k47 e2
 go_wp2_with fail
 go_ret2
 refine ⟨w1.heap.size + 1, tb, NB, w1.heap.size, some ⟨Bq, oq, none⟩, cq, B, off, tcap, S, by omega, rfl, HWO6.out.only HO7.out, HK7.out, ?_⟩
 have h1 := HB1.out
 have h4 := HB14.out
 have h5 := HO5.out
 have h6 := HO6.out
 have h7 := HO7.out
 refine ⟨h7.os.trans (h6.os.trans (h5.os.trans (h4.os.trans h1.os))), h7.tape.trans (h6.tape.trans (h5.tape.trans (h4.tape.trans h1.tape))), h7.output.trans (h6.output.trans (h5.output.trans (h4.output.trans h1.output))), by have := h7.size; omega, fun k hk => ?_⟩
 rw [h7.block k (by omega) (by omega), h6.block k (by omega) (by omega), h5.block k (by omega) (by omega), h4.block k (by omega), h1.block k hk]
end Go.Proofs.YtlkfakdghjaoaaaGreatDoor
