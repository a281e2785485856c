/-
  Contracts: slices.Backward at nodes; a node appended to the way order.
-/
import Derived.Test.YtdolbmonmkjajaaGreatSpreadFrom
import Derived.Deep.RegionLaw
namespace Go.Proofs.YtdolbmonmkjajaaGreat
open Go.RowKit Go.Sort Go.Shelf

/-- The places and the elements of a list, the last first. -/
def backZ (ts : List Nat) : List (Nat × Nat) := ((List.range ts.length).map fun k => (k, ts.getD k 0)).reverse

theorem backZ_length (ts : List Nat) : (backZ ts).length = ts.length := by simp [backZ]
theorem backZ_snd (ts : List Nat) : (backZ ts).map (·.2) = ts.reverse := by
  unfold backZ
  rw [List.map_reverse, List.map_map]
  congr 1
  refine List.ext_getElem (by simp) fun i h1 h2 => ?_
  simp only [List.getElem_map, List.getElem_range, Function.comp]
  rw [List.getD_eq_getElem?_getD, List.getElem?_eq_getElem h2]; rfl
theorem backZ_get {ts : List Nat} {m : Nat} (h : m < ts.length) : (backZ ts)[ts.length - (m + 1)]? = some (m, ts[m]) := by
  unfold backZ
  rw [List.getElem?_reverse (by simp; omega)]
  simp only [List.length_map, List.length_range]
  rw [show ts.length - 1 - (ts.length - (m + 1)) = m by omega, List.getElem?_map, List.getElem?_range h]
  simp only [Option.map_some]
  rw [List.getD_eq_getElem?_getD, List.getElem?_eq_getElem h]; rfl

section
attribute [local go_sem] Oper.semAt_some

set_option maxRecDepth 100000 in
set_option maxHeartbeats 2000000 in
theorem backward_own (n NB TB cap : Nat) (A : Option Addr) (ts : List Nat) (R : Nat → Prop) (w : World) (hn : 1 ≤ n) (htl : ts.length ≤ 1048576)
    (hTB : w.cell? ⟨TB, 0, none⟩ = some (.slice A ts.length cap)) (hA : PtsI w A NB ts) (hTl : TB < w.heap.size) (hRT : R TB) (hRA : ∀ b off, 0 < ts.length → A = some ⟨b, off, none⟩ → R b) :
    SeqOwn Fence.wide n Tryz.prog 135 #[.pointer (some ⟨TB, 0, none⟩)] (fun p : Nat × Nat => #[.int .i64 p.1, nptr NB p.2]) R (fun _ => True) (fun pre x => pre ++ [x] <+: backZ ts)
      (fun xs => xs = backZ ts) (fun pre => pre <+: backZ ts) w := by
  intro l J Jx W hW hJ _ hY h0
  have hKW : Keeps R w W := ⟨hW.size, fun k hk _ => hW.block k hk⟩
  have ct := (hW.cell (p := ⟨TB, 0, none⟩) hTl).trans hTB
  have HA := Lib.hid hA
  have HY := Lib.hid hY
  have HKW := Lib.hid hKW
  have HRA := Lib.hid hRA
  have HTB := Lib.hid hTB
  clear hTB hA hW hY hJ hKW hRA
  refine callsIn_of_wp Tryz.func135 rfl trivial ?_ rfl
  simp only [Tryz.ntmps135, List.size_toArray, List.length_cons, List.length_nil, Nat.reduceAdd, Nat.reduceSub, Array.replicate_succ, Array.replicate_zero, List.push_toArray, List.append_toArray, List.nil_append, List.cons_append]
  gi_wp2_with fail
  gi_loopg [3] ts.length (fun gk iv wr => ∃ (m : Nat) (z : Int), gk = m ∧ iv = .int .i64 z ∧ z = (m : Int) - 1 ∧ m ≤ ts.length ∧ J (fun _ => False) ((backZ ts).take (ts.length - m)) wr ∧ Keeps R w wr)
  case atStart => exact ⟨ts.length, _, rfl, rfl, rfl, Nat.le_refl _, by rw [Nat.sub_self]; exact h0, HKW.out⟩
  case round =>
    obtain ⟨m, z, hgk, rfl, hz, hm, hJs, hKR⟩ := hrel
    have hgk' := hgk.symm
    subst hgk'
    cases m with
    | zero =>
      obtain rfl : z = -1 := by omega
      clear hz hgk hm
      have hre : (backZ ts).take (ts.length - 0) = backZ ts := List.take_of_length_le (by rw [backZ_length]; omega)
      rw [hre] at hJs
      gi_wp2_with fail
      go_end0
      exact ⟨⟨_, rfl⟩, .inl ⟨_, _, rfl, hJs⟩⟩
    | succ m =>
      obtain rfl : z = (m : Int) := by omega
      clear hz hgk
      have hml : m < ts.length := by omega
      obtain ⟨x, hx⟩ : ∃ x, x = ts[m] := ⟨_, rfl⟩
      obtain ⟨b, off, hAe, hbl, hc⟩ := HA.out (by omega)
      subst hAe
      have hRb := HRA.out b off (by omega) rfl
      have cT : wr.cell? ⟨TB, 0, none⟩ = some (.slice (some ⟨b, off, none⟩) ts.length cap) := (World.cell?_of_block (hKR.2 TB hTl hRT)).trans HTB.out
      have cX : wr.cell? ⟨b, off + m, none⟩ = some (nptr NB x) := by
        rw [World.cell?_of_block (hKR.2 b hbl hRb), hc m hml, hx]
      have hpx : (backZ ts).take (ts.length - (m + 1)) ++ [(m, x)] = (backZ ts).take (ts.length - m) := by
        have h1 := backZ_get hml
        rw [show ts.length - m = ts.length - (m + 1) + 1 by omega, List.take_add_one, h1, hx]; rfl
      obtain ⟨fn, tmps, assign, body, hy, hRd⟩ := HY.out _ _ (m, x) wr hJs (by rw [hpx]; exact List.take_prefix _ _)
      have hy' : (Instr.yield l #[.int .i64 m, nptr NB x]).run Tryz.prog wr = .ok (.round l fn tmps assign body) wr := hy
      have HPX := Lib.hid hpx
      have HKR := Lib.hid hKR
      clear hy hx hc hpx hJs hKR
      gi_wp2_with fail
      refine hRd.mono ?_
      rintro e W3 (⟨rfl, hJ3, hk3⟩ | ⟨rfl, hJx3⟩)
      · rw [HPX.out] at hJ3
        have HK3 := Lib.hid (HKR.out.trans (hk3.fewer fun b h => .inl h))
        clear hk3 hRd
        gi_wp2_with fail
        gi_roundg m
        case measure => omega
        case rel => exact ⟨m, _, rfl, rfl, by omega, by omega, hJ3, HK3.out⟩
      · rw [HPX.out] at hJx3
        gi_wp2_with fail
        refine bodyPost_ret (results_none rfl _ _ _) rfl ?_
        exact ⟨⟨_, rfl⟩, .inr ⟨_, List.take_prefix _ _, hJx3⟩⟩
end

/-- The iterator's maker. -/
theorem backward_any (v : Value) (w : World) (hv : v.oneCell' = true) :
    Calls Tryz.prog 121 #[v] w fun e w' =>
      e = .returned (.func (.func 135) #[] #[.pointer (some ⟨w.heap.size, 0, none⟩)]) ∧ w' = w.alloc (.cells #[v] 63) := by
  go_enter Tryz.func121, Tryz.ntmps121
  go_wp2
  go_ret
  exact ⟨rfl, rfl⟩

/-- append, as one step of a region that draws. -/
theorem step_append_row {P : Program} {w : World} {ops : Array Oper} {o : Oper} {a : Act} {K : Act → World → Prop} {Q : Exit → Act → World → Prop} {E : Prop}
    (hg : o.guard = none) (s x : Operand) (t : TypeId) (hop : o.op = Op.call { callee := Callee.builtin Builtin.append, args := #[s, x], argTypes := #[t, t] })
    (e : TypeId) (i : TypeInfo) (z : Value) (size : Nat) (ht : P.underlying t = some (.slice e)) (hi : P.info? e = some i) (hz : i.zero = some z) (hsize : i.size = size) (hby : i.bytes ≤ 1024) (hzs : z.cells.size = size)
    (O : Nat → Prop) (v : Value) (k : Nat) (xs : List Value) (hs : a.eval s = v) (hq : Row w e size O v k xs) (ad : Addr) (m c : Nat) (news : List Value) (hx : a.eval x = .slice (some ad) m c) (hl : news.length = m * size)
    (hc : ∀ j u, news[j]? = some u → w.cell? (ad.add j) = some u) (h1c : ∀ u ∈ news, u.oneCell' = true) (b1 : k + m ≤ 1048576) (hm : 0 < m)
    (hK : ∀ v' w', Que w' e size (more O w w') v' (k + m) (xs ++ news) → Turns O w w' → K (a.put o.dst v') w') :
    if Region.wanted o (yielded ops a.tmps) = true then Oper.wp P o a w K Q else E := by
  have hw : Region.wanted o (yielded ops a.tmps) = true := by simp [Region.wanted, hg]
  rw [if_pos hw]
  obtain ⟨v', w', hrun, r1, r2⟩ := run_append_row (P := P) w t o.type e i z size ht hi hz hsize hby hzs O v k xs hq ad m c news hl hc h1c b1 hm
  unfold Oper.wp
  simp [execOp, hop, resolve, invoke, builtin, hs, hx, hrun, Result.andThen]
  exact hK v' w' r1 r2

def PutPost (NB WB : Nat) (tv mv : Value) (i k : Nat) (xs : List Value) (O : Nat → Prop) (w : World) (e : Ending) (w' : World) : Prop :=
  e = .returned (.tuple #[]) ∧ ∃ q', Turns (fun b => O b ∨ b = WB) w w' ∧ Blk w' WB 71 #[tv, q', mv] ∧ Row w' 61 1 (more O w w') q' (k + 1) (xs ++ [nptr NB i])

set_option maxRecDepth 100000 in
set_option maxHeartbeats 2000000 in
theorem behind_any (NB OB WB : Nat) (tv q mv : Value) (i k : Nat) (xs : List Value) (O : Nat → Prop) (w : World) (hO : Blk w OB 58 #[.pointer (some ⟨WB, 0, none⟩)]) (hW : Blk w WB 71 #[tv, q, mv])
    (hR : Row w 61 1 O q k xs) (hOO : ¬ O OB) (hOW : ¬ O WB) (hk : k + 1 ≤ 1048576) (hne : OB ≠ WB) :
    Calls Tryz.prog 93 #[nptr NB i, .pointer (some ⟨OB, 0, none⟩)] w (PutPost NB WB tv mv i k xs O w) := by
  obtain ⟨i0, hi0, hz0, hz1, hz2⟩ := info_parts info_ptr
  have c0 : w.cell? ⟨OB, 0, none⟩ = some (.pointer (some ⟨WB, 0, none⟩)) := hO.cell 0
  have c1 : w.cell? ⟨WB, 1, none⟩ = some q := hW.cell 1
  have f1 := hW.frozen 1
  have hOl := hO.lt
  have hWl := hW.lt
  have HO := Lib.hid hO
  have HW := Lib.hid hW
  have HROW := Lib.hid (show Row (w.drew.alloc (.cells #[nptr NB i] 61)) 61 1 O q k xs from
    hR.kept ((Turns.keeps (O := fun _ => False) (Turns.drew _ w) fun _ _ h => h).trans (Turns.keeps (O := fun _ => False) (Turns.alloc _ _ _) fun _ _ h => h)) fun _ _ h => h)
  have HNEW := Lib.hid (cell_one_new w.drew (nptr NB i) 61)
  clear hO hW hR
  go_enter Tryz.func93, Tryz.ntmps93
  go_wp2_with fail
  go_region_law ((refine step_append_row (by rfl) _ _ _ (by rfl) 61 i0 (.pointer none) 1 Tryz.underlying63 hi0 hz0 hz1 (by rw [hz2]; decide) rfl O q k xs (by rfl) HROW.out ⟨w.heap.size, 0, none⟩ 1 1 [nptr NB i] (by rfl) (by rfl) HNEW.out (by simp [Value.oneCell']) (by omega) (by decide) ?_; intro v' w1 hq' hT'; obtain ⟨B', off', cap', rfl, _⟩ := hq'.cells; have k2 : Blk w1 WB 71 #[tv, q, mv] := (hT'.block _ (by simp; omega) hOW).trans (HW.out.drew.alloc _); have k3 : Blk w1 OB 58 #[.pointer (some ⟨WB, 0, none⟩)] := (hT'.block _ (by simp; omega) hOO).trans (HO.out.drew.alloc _); have c2 : w1.cell? ⟨WB, 1, none⟩ = some q := k2.cell 1; have c3 : w1.cell? ⟨OB, 0, none⟩ = some (.pointer (some ⟨WB, 0, none⟩)) := k3.cell 0; have f2 := k2.frozen 1; have HQQ := Lib.hid hq'; have HTT := Lib.hid hT'; have HK2 := Lib.hid k2; clear k2 k3 hq' hT'))
  all_goals
    go_wp2_with fail
    go_end0
    have hsA : (w.alloc (.cells #[nptr NB i] 61)).drew.heap.size = w.heap.size + 1 := by simp
    have TA : Turns (fun b => O b ∨ b = WB) w (w.alloc (.cells #[nptr NB i] 61)).drew := (Turns.alloc _ w _).trans ((Turns.drew (fun b => O b ∨ b = WB) _).wider fun k hk => .inl hk)
    have TB : Turns (fun b => O b ∨ b = WB) w w1 := TA.trans (HTT.out.wider fun k h => .inl (.inl h))
    have TC := TB.trans ((Turns.setCell (O := fun b => O b ∨ b = WB) (p := ⟨WB, 1, none⟩) (.inr rfl) (.slice (some ⟨B', off', none⟩) (k + 1) cap')).wider fun k h => .inl h)
    have h1s := HTT.out.size
    rw [hsA] at h1s
    refine ⟨rfl, _, TC, by simpa using HK2.out.set_ 1 (.slice (some ⟨B', off', none⟩) (k + 1) cap'), .inr (HQQ.out.kept (Turns.keeps (Turns.setCell (O := fun b => b = WB) (p := ⟨WB, 1, none⟩) rfl _) fun b hb e => ?_) fun b hb h => ?_)⟩
    · subst e
      rcases hb with hb | hb
      · exact hOW hb
      · rw [hsA] at hb; omega
    · rcases h with h | h
      · exact .inl h
      · rw [hsA] at h
        exact .inr ⟨by omega, by simp; omega⟩
end Go.Proofs.YtdolbmonmkjajaaGreat
