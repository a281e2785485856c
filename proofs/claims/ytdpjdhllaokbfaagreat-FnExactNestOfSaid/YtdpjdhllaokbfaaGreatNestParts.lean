/-
  The program's lists of parts: those among items, with and without those within them.
-/
import Derived.Test.YtdpjdhllaokbfaaGreatItemsP
import Derived.Deep.Upon
namespace Go.Proofs.YtdpjdhllaokbfaaGreat
open Go.RowKit Go.Sort Go.Shelf

/-- Pointers to parts. -/
def RPV (w : World) (K : Nat → Prop) (NB : Nat) (rs : List PT) (vs : List Value) : Prop := vs.length = rs.length ∧ ∀ i (h : i < rs.length), ∃ b, vs[i]? = some (.pointer (some ⟨b, 0, none⟩)) ∧ NIAt w K NB rs[i].ni (.iface 61 (.pointer (some ⟨b, 0, none⟩)))
theorem RPV.nil (w : World) (K : Nat → Prop) (NB : Nat) : RPV w K NB [] [] := ⟨rfl, fun i h => absurd h (by simp)⟩
theorem RPV.below {w w' : World} {K : Nat → Prop} {NB : Nat} {rs : List PT} {vs : List Value} (h : RPV w K NB rs vs) (hb : Below w.heap.size w w') : RPV w' K NB rs vs := ⟨h.1, fun i hi => by
  obtain ⟨b, h1, h2⟩ := h.2 i hi
  exact ⟨b, h1, h2.below hb⟩⟩
theorem RPV.kept {w w' : World} {K K' : Nat → Prop} {NB : Nat} {rs : List PT} {vs : List Value} (h : RPV w K NB rs vs) (hk : Keeps K w w') (hK : ∀ k, k < w.heap.size → K k → K' k) : RPV w' K' NB rs vs := ⟨h.1, fun i hi => by
  obtain ⟨b, h1, h2⟩ := h.2 i hi
  exact ⟨b, h1, NIAt.kept hk hK _ _ h2⟩⟩
theorem RPV.append {w : World} {K : Nat → Prop} {NB : Nat} {rs rs' : List PT} {vs vs' : List Value} (h : RPV w K NB rs vs) (k : RPV w K NB rs' vs') : RPV w K NB (rs ++ rs') (vs ++ vs') := by
  refine ⟨by simp [h.1, k.1], fun i hi => ?_⟩
  by_cases hl : i < rs.length
  · obtain ⟨b, h1, h2⟩ := h.2 i hl
    simp only [List.getElem_append_left hl]
    exact ⟨b, by rw [List.getElem?_append_left (by rw [h.1]; exact hl)]; exact h1, h2⟩
  · have hi2 : i - rs.length < rs'.length := by simp at hi; omega
    obtain ⟨b, h1, h2⟩ := k.2 (i - rs.length) hi2
    simp only [List.getElem_append_right (Nat.le_of_not_lt hl)]
    exact ⟨b, by rw [List.getElem?_append_right (by rw [h.1]; omega), h.1]; exact h1, h2⟩
/-- Parts in a slice. -/
def RPsAt (w : World) (K : Nat → Prop) (NB : Nat) (rs : List PT) (A : Option Addr) : Prop := ∃ vs, ValK w (fun _ => True) A vs ∧ RPV w K NB rs vs
theorem RPsAt.below {w w' : World} {K : Nat → Prop} {NB : Nat} {rs : List PT} {A : Option Addr} (h : RPsAt w K NB rs A) (hb : Below w.heap.size w w') : RPsAt w' K NB rs A := by
  obtain ⟨vs, h1, h2⟩ := h
  exact ⟨vs, h1.kept ⟨hb.size, fun k hk _ => hb.block k hk⟩ fun _ _ h => h, h2.below hb⟩
theorem RPsAt.get {w : World} {K : Nat → Prop} {NB : Nat} {rs : List PT} {A : Option Addr} (h : RPsAt w K NB rs A) {i : Nat} (hi : i < rs.length) : ∃ b0 off b, A = some ⟨b0, off, none⟩ ∧ w.cell? ⟨b0, off + i, none⟩ = some (.pointer (some ⟨b, 0, none⟩)) ∧ NIAt w K NB rs[i].ni (.iface 61 (.pointer (some ⟨b, 0, none⟩))) := by
  obtain ⟨vs, h1, h2, h3⟩ := h
  obtain ⟨b, h4, h5⟩ := h3 i hi
  obtain ⟨b0, off, e, _, _, h6⟩ := h1 (by omega)
  refine ⟨b0, off, b, e, ?_, h5⟩
  rw [h6 i (by omega), ← h4, List.getElem?_eq_getElem (by omega)]
theorem rps_of_row {w : World} {O : Nat → Prop} {K : Nat → Prop} {NB : Nat} {rs : List PT} {v : Value} {vs : List Value} (h : Row w 61 1 O v rs.length vs) (hp : RPV w K NB rs vs) : ∃ A c, v = .slice A rs.length c ∧ RPsAt w K NB rs A := by
  rcases h with ⟨h1, h2, h3⟩ | hq
  · exact ⟨none, 0, by rw [h1, h2], vs, (fun h => by rw [h3] at h; cases h), hp⟩
  · obtain ⟨B7, o7, c7, h1, _, h3, h4, h5⟩ := hq.cells
    exact ⟨_, c7, h1, vs, fun _ => ⟨B7, o7, rfl, trivial, h4, fun i hi => by rw [h5 i hi, List.getElem?_eq_getElem hi]⟩, hp⟩

theorem info_rp : (Tryz.prog.info? 61).map (fun i => (i.zero, i.size, i.bytes)) = some (some (.pointer none), 1, 8) := by kernel_rfl
theorem assert_lone (u : Value) (w : World) : (Instr.typeAssert (.iface 100 (.agg #[u])) 87 61 true).run Tryz.prog w = .ok (.tuple #[.pointer none, .bool false]) w := by kernel_rfl
theorem assert_part (b : Nat) (w : World) : (Instr.typeAssert (.iface 61 (.pointer (some ⟨b, 0, none⟩))) 87 61 true).run Tryz.prog w = .ok (.tuple #[.pointer (some ⟨b, 0, none⟩), .bool true]) w := by kernel_rfl
theorem look_lone (u : Value) (w : World) : (method 287 100 (.agg #[u]) "loop.example/structuredjumps/impl.parts").run Tryz.prog w = .ok (155, .agg #[u]) w := by kernel_rfl
theorem look_part (b : Nat) (w : World) : (method 287 61 (.pointer (some ⟨b, 0, none⟩)) "loop.example/structuredjumps/impl.parts").run Tryz.prog w = .ok (153, .pointer (some ⟨b, 0, none⟩)) w := by kernel_rfl

/-- append of nothing. -/
theorem wpList_append_rowN {P : Program} {w : World} {ops : Array Oper} {rest : List Oper} {o : Oper} {a : Act} {Q : Exit → Act → World → Prop} (hgd : o.guard = none) (s x : Operand) (t : TypeId)
    (hop : o.op = Op.call { callee := Callee.builtin Builtin.append, args := #[s, x], argTypes := #[t, t] })
    (e : TypeId) (i : TypeInfo) (ht : P.underlying t = some (.slice e)) (hi : P.info? e = some i)
    (O : Nat → Prop) (v : Value) (k : Nat) (xs : List Value) (hs : a.eval s = v) (hq : Row w e 1 O v k xs) (A : Option Addr) (c : Nat) (hx : a.eval x = .slice A 0 c)
    (hK : wpList P ops Q rest (a.put o.dst v) w) :
    wpList P ops Q (o :: rest) a w := by
  refine wpList_plain hgd fun K hK' => ?_
  have hsrc : Src P i.size t (.slice A 0 c) 0 [] w := by
    cases A with
    | none => exact Src.ofNil (w := w) ht c
    | some ad => exact Src.ofSlice (w := w) ht ad 0 c [] (by simp) (fun j u h => by simp at h) (fun u h => by cases h)
  have hrun : (Builtin.append_ #[t, t] o.type #[v, .slice A 0 c]).run P w = .ok v w := by
    rcases hq with ⟨rfl, _, _⟩ | ⟨B, off, cap, cs, rfl, hn, _⟩
    · exact run_append_nothing w t t o.type e i ht hi none 0 0 (Nat.le_refl _) _ hsrc
    · exact run_append_nothing w t t o.type e i ht hi _ k cap hn _ hsrc
  unfold Oper.wp execOp
  simp only [hop, resolve, invoke, builtin, Sem.run_bind, Sem.run_pure, Result.andThen_ok, List.map_toArray, List.map_cons, List.map_nil, hs, hx, hrun]
  exact hK' _ _ hK

/-- All parts among items: what a call does. -/
def AllGoes (NB n : Nat) : Prop := ∀ (items : List NI) (A : Option Addr) (cap : Nat) (K : Nat → Prop) (w : World), wtL items ≤ n → (∀ k, K k → k < w.heap.size) → NIsAt w K NB items A →
  Calls Tryz.prog 50 #[.slice A items.length cap] w fun e w' => ∃ A' c', e = .returned (.slice A' (allP items).length c') ∧ RPsAt w' K NB (allP items) A' ∧ Below w.heap.size w w'

theorem lone_parts (u : Value) (w : World) (_hu : u.oneCell' = true) :
    Calls Tryz.prog 155 #[.agg #[u]] w fun e w' => e = .returned (.slice none 0 0) ∧ Below w.heap.size w w' := by
  go_enter Tryz.func155, Tryz.ntmps155
  go_wp2_with fail
  go_ret
  exact ⟨rfl, by first | exact Below.refl _ _ | exact (Below.refl _ _).alloc (Nat.le_refl _) _⟩

set_option maxRecDepth 100000 in
set_option maxHeartbeats 2000000 in
theorem part_parts (NB n b : Nat) (P D : List Nat) (W : List NI) (K : Nat → Prop) (w : World) (hn : n ≤ 10000) (ih : AllGoes NB n) (hW : wtL W ≤ n) (hK : ∀ k, K k → k < w.heap.size) (hI : NIAt w K NB (.part P D W) (.iface 61 (.pointer (some ⟨b, 0, none⟩)))) :
    Calls Tryz.prog 153 #[.pointer (some ⟨b, 0, none⟩)] w fun e w' => ∃ A' c', e = .returned (.slice A' ((P, D, W) :: allP W).length c') ∧ RPsAt w' K NB ((P, D, W) :: allP W) A' ∧ Below w.heap.size w w' := by
  obtain ⟨i0, hi0, hz0, hz1, hz2⟩ := info_parts info_rp
  have HI := Lib.hid hI
  unfold NIAt at hI
  obtain ⟨b', A1, c1, A2, c2, A3, c3, vs, hv, h1, h2, h3, h4, h5, h6, h7⟩ := hI
  simp only [Value.iface.injEq, Value.pointer.injEq, Option.some.injEq, Addr.mk.injEq, and_true, true_and] at hv
  subst hv
  have hwl := h2.lt
  have hal := allP_len n W hW
  obtain ⟨w2, hw2⟩ : ∃ w2, w2 = w.alloc (.cells #[.pointer (some ⟨b, 0, none⟩)] 61) := ⟨_, rfl⟩
  have hb2 : Below w.heap.size w w2 := by rw [hw2]; exact (Below.refl _ _).alloc (Nat.le_refl _) _
  have hs2 : w2.heap.size = w.heap.size + 1 := by rw [hw2]; simp
  have cb : (w.alloc (.cells #[.pointer (some ⟨b, 0, none⟩)] 61)).cell? ⟨b, 2, none⟩ = some (.slice A3 W.length c3) := by rw [← hw2]; exact (hb2.cell (p := ⟨b, 2, none⟩) hwl).trans (h2.cell 2)
  have HA := Lib.hid (ih W A3 c3 K w2 hW (fun k hk => by have := hK k hk; omega) (show NIsAt w2 K NB W A3 from NIsAt.below (w := w) ⟨vs, h5, h6, h7⟩ hb2))
  have HQ0 := Lib.hid (show Que w2 61 1 (fun k => w.heap.size ≤ k) (.slice (some ⟨w.heap.size, 0, none⟩) 1 1) 1 [.pointer (some ⟨b, 0, none⟩)] by rw [hw2]; exact Que.made w 61 1 (fun k => w.heap.size ≤ k) #[.pointer (some ⟨b, 0, none⟩)] 1 rfl (Nat.le_refl _))
  have HB2 := Lib.hid hb2
  have HS2 := Lib.hid hs2
  have HKK := Lib.hid hK
  clear h1 h2 h3 h4 h5 h6 h7 hb2 hs2 hK
  go_enter Tryz.func153, Tryz.ntmps153
  go_wp2_with fail
  rw [← hw2]
  clear hw2
  refine HA.out.mono ?_
  rintro e w3 ⟨A7, c7, rfl, hR7, hb7⟩
  have HQ3 := Lib.hid (show Row w3 61 1 (fun k => w.heap.size ≤ k) (.slice (some ⟨w.heap.size, 0, none⟩) 1 1) 1 [.pointer (some ⟨b, 0, none⟩)] from .inr (HQ0.out.kept ⟨hb7.size, fun k hk _ => hb7.block k hk⟩ fun _ _ h => h))
  have HB3 := Lib.hid (HB2.out.trans (hb7.mono HB2.out.size))
  have HV1 := Lib.hid (show RPV w3 K NB [(P, D, W)] [.pointer (some ⟨b, 0, none⟩)] from ⟨rfl, fun i hi => by
    have e : i = 0 := by simp at hi; omega
    subst e
    exact ⟨b, rfl, NIAt.below (w := w) HI.out HB3.out⟩⟩)
  obtain ⟨us, hu1, hu2⟩ := hR7
  have HU1 := Lib.hid hu1
  have HU2 := Lib.hid hu2
  have hul := hu2.1
  obtain ⟨m, hm⟩ : ∃ m, m = (allP W).length := ⟨_, rfl⟩
  rw [← hm] at hul hal ⊢
  have HM := Lib.hid hm
  have HUL := Lib.hid hul
  obtain ⟨v0, hv0⟩ : ∃ v0, v0 = Value.slice (some ⟨w.heap.size, 0, none⟩) 1 1 := ⟨_, rfl⟩
  rw [← hv0] at HQ3 ⊢
  have HV0 := Lib.hid hv0
  clear hu1 hu2 hm hb7 hul hv0 HQ0
  cases m with
  | zero =>
    have HWN := Lib.hid (show us = [] from List.eq_nil_of_length_eq_zero HUL.out)
    have HAN := Lib.hid (show allP W = [] from List.eq_nil_of_length_eq_zero HM.out.symm)
    go_wp2_with (at_builtin; go_loud (refine wpList_append_rowN (by rfl) _ _ 52 (by rfl) 61 i0 Tryz.underlying52 hi0 (fun k => w.heap.size ≤ k) v0 1 [.pointer (some ⟨b, 0, none⟩)] (by rfl) HQ3.out A7 c7 (by rfl) ?_))
    go_wp2_with fail
    go_ret
    refine ⟨some ⟨w.heap.size, 0, none⟩, 1, ?_, ?_, HB3.out⟩
    · rw [HAN.out, HV0.out]; rfl
    · rw [HAN.out]
      obtain ⟨_, _, e, hR⟩ := rps_of_row (rs := [(P, D, W)]) HQ3.out HV1.out
      rw [HV0.out] at e
      injection e with e1 e2 e3
      rw [e1]; exact hR
  | succ m =>
    obtain ⟨bb, off, hAe, _, hbl, hcell⟩ := HU1.out (by have := HUL.out; omega)
    subst hAe
    have HC := Lib.hid (show ∀ j u, us[j]? = some u → w3.cell? ((⟨bb, off, none⟩ : Addr).add j) = some u from fun j u hu => by
      obtain ⟨hj, e⟩ := List.getElem?_eq_some_iff.1 hu
      have e2 : (⟨bb, off, none⟩ : Addr).add j = ⟨bb, off + j, none⟩ := by unfold Addr.add; split <;> simp_all
      rw [e2, hcell j hj, e])
    have HONE := Lib.hid (show ∀ u ∈ us, u.oneCell' = true from fun u hu => by
      obtain ⟨j, hj, e⟩ := List.getElem_of_mem hu
      obtain ⟨b3, h3, _⟩ := HU2.out.2 j (by rw [← HU2.out.1]; exact hj)
      rw [List.getElem?_eq_getElem hj] at h3
      rw [← e, Option.some.inj h3]; rfl)
    clear hcell
    go_wp2_with (at_builtin; go_loud (refine wpList_append_rowK (by rfl) _ _ _ (by rfl) 61 i0 (.pointer none) 1 Tryz.underlying52 hi0 hz0 hz1 (by rw [hz2]; decide) rfl (fun k => w.heap.size ≤ k) v0 1 [.pointer (some ⟨b, 0, none⟩)] (by rfl) HQ3.out ⟨bb, off, none⟩ (m + 1) c7 us (by rfl) (by rw [HUL.out, Nat.mul_one]) HC.out HONE.out ?c3 (by omega) ?_))
    case c3 => omega
    intro v' w9 hq' hT'
    obtain ⟨B', off', cap', rfl, _⟩ := hq'.cells
    have HQ9 := Lib.hid hq'
    have HB9 := Lib.hid (HB3.out.trans (hT'.below HB3.out.size fun k h => h))
    have HT9 := Lib.hid hT'
    clear hq' hT'
    go_wp2_with fail
    go_ret
    have hK9 : Keeps K w3 w9 := HT9.out.keeps fun k hk e => by have := HKK.out k hk; omega
    have hV9 := (HV1.out.append HU2.out).kept (K' := K) hK9 fun _ _ h => h
    have hrow : Row w9 61 1 (fun _ => True) (.slice (some ⟨B', off', none⟩) (1 + (m + 1)) cap') ((P, D, W) :: allP W).length ([.pointer (some ⟨b, 0, none⟩)] ++ us) := by
      rw [List.length_cons, ← HM.out, Nat.add_comm 1 (m + 1)]
      have := HQ9.out
      rw [Nat.add_comm 1 (m + 1)] at this
      exact .inr (this.kept (Keeps.refl _ _) fun _ _ _ => trivial)
    obtain ⟨A9, c9, e, hR⟩ := rps_of_row (rs := (P, D, W) :: allP W) hrow hV9
    exact ⟨A9, c9, ret_val e, hR, HB9.out⟩

set_option maxRecDepth 100000 in
set_option maxHeartbeats 4000000 in
theorem allParts_step (NB n : Nat) (hn : n ≤ 10000) (items : List NI) (ih : 0 < items.length → AllGoes NB n) (A : Option Addr) (cap : Nat) (K : Nat → Prop) (w : World) (hwt : wtL items ≤ n + 1) (hK : ∀ k, K k → k < w.heap.size) (hI : NIsAt w K NB items A) :
    Calls Tryz.prog 50 #[.slice A items.length cap] w fun e w' => ∃ A' c', e = .returned (.slice A' (allP items).length c') ∧ RPsAt w' K NB (allP items) A' ∧ Below w.heap.size w w' := by
  obtain ⟨i0, hi0, hz0, hz1, hz2⟩ := info_parts info_rp
  have hil : items.length ≤ 10001 := by have := wtL_length items; omega
  have HI := Lib.hid hI
  have HK := Lib.hid hK
  have HIH := Lib.hid ih
  have HWT := Lib.hid hwt
  clear hI hK ih hwt
  go_enter Tryz.func50, Tryz.ntmps50
  go_wp2_with fail
  go_loopw [3, 8] (fun v0 i wr => ∃ (j : Nat) (vs : List Value) (v : Value), v = v0 ∧ j ≤ items.length ∧ i = .int .i64 j ∧ Hid (Row wr 61 1 (fun k => w.heap.size ≤ k) v (allP (items.take j)).length vs) ∧ Hid (RPV wr K NB (allP (items.take j)) vs) ∧ Hid (Below w.heap.size w wr)) (fun _ i _ => items.length - (intOf i).toNat)
  case atStart => exact ⟨0, [], _, rfl, Nat.zero_le _, rfl, (by rw [List.take_zero, allP_nil]; exact Row.nil _ _ _ _), (by rw [List.take_zero, allP_nil]; exact RPV.nil _ _ _), Below.refl _ _⟩
  case round =>
    obtain ⟨j, vs, v, rfl, hj, rfl, HRW, HRV, HB⟩ := hrel
    by_cases hlt : j < items.length
    · obtain ⟨xs, h1, h2, h3⟩ := HI.out
      obtain ⟨u, hu1, hu2⟩ := NIsV.get items xs h3 j hlt
      obtain ⟨b0, off0, rfl, _, hb0, hc0⟩ := h2 (by omega)
      have cx : wr.cell? ⟨b0, off0 + j, none⟩ = some u := by
        rw [HB.out.cell (p := ⟨b0, off0 + j, none⟩) hb0, hc0 j (by omega), ← hu1, List.getElem?_eq_getElem (by omega)]
      obtain ⟨x, hx⟩ : ∃ x, x = items[j] := ⟨_, rfl⟩
      rw [← hx] at hu2
      have hxm : x ∈ items := hx ▸ List.getElem_mem hlt
      have hxw := wtL_mem hxm
      have HSN := Lib.hid (show allP (items.take (j + 1)) = allP (items.take j) ++ partsN x by rw [List.take_succ_eq_append_getElem hlt, allP_snoc, ← hx])
      have hal : (allP (items.take j)).length ≤ 10001 ∧ (allP (items.take (j + 1))).length ≤ 10001 := by
        have h4 := allP_len (n + 1) items HWT.out
        have e1 : allP items = allP (items.take j) ++ allP (items.drop j) := by rw [← allP_append, List.take_append_drop]
        have e2 : allP items = allP (items.take (j + 1)) ++ allP (items.drop (j + 1)) := by rw [← allP_append, List.take_append_drop]
        have h5 := congrArg List.length e1
        have h6 := congrArg List.length e2
        rw [List.length_append] at h5 h6
        have := HWT.out
        omega
      obtain ⟨done, hdone⟩ : ∃ done, done = allP (items.take j) := ⟨_, rfl⟩
      rw [← hdone] at HRW HRV HSN hal
      have HDN := Lib.hid hdone
      clear hx h1 h2 h3 hu1 hc0 hdone
      cases x with
      | blk i =>
        have hu : u = .iface 100 (.agg #[nptr NB i]) := by unfold NIAt at hu2; exact hu2
        subst hu
        have hlook := fun w => look_lone (nptr NB i) w
        have hent : ∀ args w, (callFunc 155 args).run Tryz.prog w = .ok (.enter 155 args) w := enters_of Tryz.func155 (by kernel_rfl) rfl
        have HSN2 := Lib.hid (show allP (items.take (j + 1)) = done by rw [HSN.out, partsN_blk, List.append_nil])
        have HLP := Lib.hid (lone_parts (nptr NB i) wr rfl)
        clear hu2
        go_wp2_with fail
        refine HLP.out.mono ?_
        rintro e w3 ⟨rfl, hb3⟩
        have HRW3 := Lib.hid (HRW.out.kept (O' := fun k => w.heap.size ≤ k) ⟨hb3.size, fun k hk _ => hb3.block k hk⟩ fun _ _ h => h)
        have HRV3 := Lib.hid (HRV.out.below hb3)
        have HB3 := Lib.hid (HB.out.trans (hb3.mono HB.out.size))
        clear hb3 HRW HRV
        go_wp2_with (at_builtin; go_loud (refine wpList_append_rowN (by rfl) _ _ 52 (by rfl) 61 i0 Tryz.underlying52 hi0 (fun k => w.heap.size ≤ k) v done.length vs (by rfl) HRW3.out none 0 (by rfl) ?_))
        go_wp2_with fail
        go_roundw
        case rel => exact ⟨j + 1, vs, _, rfl, by omega, by go_num, by rw [HSN2.out]; exact HRW3.out, by rw [HSN2.out]; exact HRV3.out, HB3.out⟩
        case measure => simp [intOf]; omega
      | part P D W =>
        have hu : ∃ b, u = .iface 61 (.pointer (some ⟨b, 0, none⟩)) := by
          unfold NIAt at hu2
          obtain ⟨b, _, _, _, _, _, _, _, hv, _⟩ := hu2
          exact ⟨b, hv⟩
        obtain ⟨b, rfl⟩ := hu
        have hWn : wtL W ≤ n := by rw [wtN_part] at hxw; have := HWT.out; omega
        have hlook := fun w => look_part b w
        have hent : ∀ args w, (callFunc 153 args).run Tryz.prog w = .ok (.enter 153 args) w := enters_of Tryz.func153 (by kernel_rfl) rfl
        have HSN2 := Lib.hid (show allP (items.take (j + 1)) = done ++ ((P, D, W) :: allP W) by rw [HSN.out, partsN_part])
        have HPP := Lib.hid (part_parts NB n b P D W K wr hn (HIH.out (by omega)) hWn (fun k hk => by have := HK.out k hk; have := HB.out.size; omega) (hu2.below HB.out))
        have hal2 : done.length + ((P, D, W) :: allP W).length ≤ 10001 := by have := hal.2; rw [HSN2.out, List.length_append] at this; exact this
        obtain ⟨rs, hrs⟩ : ∃ rs, rs = (P, D, W) :: allP W := ⟨_, rfl⟩
        have hrp : 0 < rs.length := by rw [hrs]; simp
        rw [← hrs] at HSN2 HPP hal2
        clear hu2 hrs hal
        go_wp2_with fail
        refine HPP.out.mono ?_
        rintro e w3 ⟨A3, c3, rfl, hR3, hb3⟩
        have HRW3 := Lib.hid (HRW.out.kept (O' := fun k => w.heap.size ≤ k) ⟨hb3.size, fun k hk _ => hb3.block k hk⟩ fun _ _ h => h)
        have HRV3 := Lib.hid (HRV.out.below hb3)
        have HB3 := Lib.hid (HB.out.trans (hb3.mono HB.out.size))
        obtain ⟨us, hu1, hu2⟩ := hR3
        obtain ⟨bb, off, hAe, _, hbl, hcell⟩ := hu1 (by rw [hu2.1]; exact hrp)
        subst hAe
        have HUL := Lib.hid hu2.1
        have HU2 := Lib.hid hu2
        have HC := Lib.hid (show ∀ j u, us[j]? = some u → w3.cell? ((⟨bb, off, none⟩ : Addr).add j) = some u from fun j u hu => by
          obtain ⟨hj, e⟩ := List.getElem?_eq_some_iff.1 hu
          have e2 : (⟨bb, off, none⟩ : Addr).add j = ⟨bb, off + j, none⟩ := by unfold Addr.add; split <;> simp_all
          rw [e2, hcell j hj, e])
        have HONE := Lib.hid (show ∀ u ∈ us, u.oneCell' = true from fun u hu => by
          obtain ⟨j, hj, e⟩ := List.getElem_of_mem hu
          obtain ⟨b3, h3, _⟩ := HU2.out.2 j (by rw [← HU2.out.1]; exact hj)
          rw [List.getElem?_eq_getElem hj] at h3
          rw [← e, Option.some.inj h3]; rfl)
        clear hcell hu1 hu2 hb3 HRW HRV
        go_wp2_with (at_builtin; go_loud (refine wpList_append_rowK (by rfl) _ _ _ (by rfl) 61 i0 (.pointer none) 1 Tryz.underlying52 hi0 hz0 hz1 (by rw [hz2]; decide) rfl (fun k => w.heap.size ≤ k) v done.length vs (by rfl) HRW3.out ⟨bb, off, none⟩ rs.length c3 us (by rfl) (by rw [HUL.out, Nat.mul_one]) HC.out HONE.out ?c3 hrp ?_))
        case c3 => omega
        intro v' w9 hq' hT'
        obtain ⟨B', off', cap', rfl, _⟩ := hq'.cells
        have HQ9 := Lib.hid (show Row w9 61 1 (fun k => w.heap.size ≤ k) (.slice (some ⟨B', off', none⟩) (done.length + rs.length) cap') (done ++ rs).length (vs ++ us) by
          rw [List.length_append]
          exact .inr (hq'.kept (Keeps.refl _ _) fun k _ h => h.elim id fun h => Nat.le_trans HB3.out.size h.1))
        have HB9 := Lib.hid (HB3.out.trans (hT'.below HB3.out.size fun k h => h))
        have HV9 := Lib.hid ((HRV3.out.append HU2.out).kept (K' := K) (hT'.keeps fun k hk e => by have := HK.out k hk; have h7 : w.heap.size ≤ k := e; omega) fun _ _ h => h)
        clear hq' hT'
        go_wp2_with fail
        go_roundw
        case rel => exact ⟨j + 1, vs ++ us, _, rfl, by omega, by go_num, by rw [HSN2.out]; exact HQ9.out, by rw [HSN2.out]; exact HV9.out, HB9.out⟩
        case measure => simp [intOf]; omega
    · have HE := Lib.hid (show allP (items.take j) = allP items by rw [List.take_of_length_le (by omega)])
      obtain ⟨A9, c9, rfl, hR⟩ := rps_of_row HRW.out HRV.out
      have HR := Lib.hid hR
      clear hR
      go_wp2_with fail
      go_ret
      exact ⟨A9, c9, ret_slN (by rw [HE.out]), by rw [← HE.out]; exact HR.out, HB.out⟩
theorem allParts_all (NB : Nat) : ∀ n, n ≤ 10000 → AllGoes NB n
  | 0, _ => fun items A cap K w hwt hK hI => by
    have e : items = [] := List.eq_nil_of_length_eq_zero (by have := wtL_length items; omega)
    subst e
    exact allParts_step NB 0 (by decide) [] (fun h => absurd h (by simp)) A cap K w (by rw [wtL_nil]; exact Nat.zero_le _) hK hI
  | n + 1, hn => fun items A cap K w hwt hK hI => allParts_step NB n (by omega) items (fun _ => allParts_all NB n (by omega)) A cap K w hwt hK hI

set_option maxRecDepth 100000 in
set_option maxHeartbeats 4000000 in
theorem outerParts_any (NB : Nat) (items : List NI) (A : Option Addr) (cap : Nat) (K : Nat → Prop) (w : World) (hil : items.length ≤ 10000) (hK : ∀ k, K k → k < w.heap.size) (hI : NIsAt w K NB items A) :
    Calls Tryz.prog 41 #[.slice A items.length cap] w fun e w' => ∃ A' c', e = .returned (.slice A' (outerP items).length c') ∧ RPsAt w' K NB (outerP items) A' ∧ Below w.heap.size w w' := by
  obtain ⟨i0, hi0, hz0, hz1, hz2⟩ := info_parts info_rp
  have HI := Lib.hid hI
  have HK := Lib.hid hK
  clear hI hK
  go_enter Tryz.func41, Tryz.ntmps41
  go_wp2_with fail
  go_loopw [3, 10] (fun v0 i wr => ∃ (j : Nat) (vs : List Value) (v : Value), v = v0 ∧ j ≤ items.length ∧ i = .int .i64 j ∧ Hid (Row wr 61 1 (fun k => w.heap.size ≤ k) v (outerP (items.take j)).length vs) ∧ Hid (RPV wr K NB (outerP (items.take j)) vs) ∧ Hid (Below w.heap.size w wr)) (fun _ i _ => items.length - (intOf i).toNat)
  case atStart => exact ⟨0, [], _, rfl, Nat.zero_le _, rfl, Row.nil _ _ _ _, RPV.nil _ _ _, Below.refl _ _⟩
  case round =>
    obtain ⟨j, vs, v, rfl, hj, rfl, HRW, HRV, HB⟩ := hrel
    by_cases hlt : j < items.length
    · obtain ⟨xs, h1, h2, h3⟩ := HI.out
      obtain ⟨u, hu1, hu2⟩ := NIsV.get items xs h3 j hlt
      obtain ⟨b0, off0, rfl, _, hb0, hc0⟩ := h2 (by omega)
      have cx : wr.cell? ⟨b0, off0 + j, none⟩ = some u := by
        rw [HB.out.cell (p := ⟨b0, off0 + j, none⟩) hb0, hc0 j (by omega), ← hu1, List.getElem?_eq_getElem (by omega)]
      obtain ⟨x, hx⟩ : ∃ x, x = items[j] := ⟨_, rfl⟩
      rw [← hx] at hu2
      have HSN := Lib.hid (show outerP (items.take (j + 1)) = outerP (items.take j) ++ outerN x by rw [List.take_succ_eq_append_getElem hlt, outerP_snoc, ← hx])
      have hal : (outerP (items.take j)).length ≤ 10000 := by have := outerP_len (items.take j); rw [List.length_take] at this; omega
      obtain ⟨done, hdone⟩ : ∃ done, done = outerP (items.take j) := ⟨_, rfl⟩
      rw [← hdone] at HRW HRV HSN hal
      clear hx h1 h2 h3 hu1 hc0 hdone
      cases x with
      | blk i =>
        have hu : u = .iface 100 (.agg #[nptr NB i]) := by unfold NIAt at hu2; exact hu2
        subst hu
        have hass := fun w => assert_lone (nptr NB i) w
        have HSN2 := Lib.hid (show outerP (items.take (j + 1)) = done by rw [HSN.out]; exact List.append_nil _)
        clear hu2
        go_wp2_with fail
        go_roundw
        case rel => exact ⟨j + 1, vs, _, rfl, by omega, by go_num, by rw [HSN2.out]; exact HRW.out, by rw [HSN2.out]; exact HRV.out, HB.out⟩
        case measure => simp [intOf]; omega
      | part P D W =>
        have hu : ∃ b, u = .iface 61 (.pointer (some ⟨b, 0, none⟩)) := by
          have hu3 := hu2
          unfold NIAt at hu3
          obtain ⟨b, _, _, _, _, _, _, _, hv, _⟩ := hu3
          exact ⟨b, hv⟩
        obtain ⟨b, rfl⟩ := hu
        have hass := fun w => assert_part b w
        have HSN2 := Lib.hid (show outerP (items.take (j + 1)) = done ++ [(P, D, W)] from HSN.out)
        have HN := Lib.hid (hu2.below HB.out)
        have HROW := Lib.hid (show Row (wr.alloc (.cells #[.pointer (some ⟨b, 0, none⟩)] 61)) 61 1 (fun k => w.heap.size ≤ k) v done.length vs from
          HRW.out.kept (Turns.keeps (O := fun _ => False) (Turns.alloc _ _ _) fun _ _ h => h) fun _ _ h => h)
        have HNEW := Lib.hid (cell_one_new wr (.pointer (some ⟨b, 0, none⟩)) 61)
        clear hu2
        go_wp2_with (at_builtin; go_loud (refine wpList_append_rowK (by rfl) _ _ _ (by rfl) 61 i0 (.pointer none) 1 Tryz.underlying52 hi0 hz0 hz1 (by rw [hz2]; decide) rfl (fun k => w.heap.size ≤ k) v done.length vs (by rfl) HROW.out ⟨wr.heap.size, 0, none⟩ 1 1 [.pointer (some ⟨b, 0, none⟩)] (by rfl) (by rfl) HNEW.out (by simp [Value.oneCell']) ?c3 (by decide) ?_))
        case c3 => omega
        intro v' w9 hq' hT'
        obtain ⟨B', off', cap', rfl, _⟩ := hq'.cells
        have hs9 : (wr.alloc (.cells #[.pointer (some ⟨b, 0, none⟩)] 61)).heap.size = wr.heap.size + 1 := by simp
        have T9 : Turns (fun k => w.heap.size ≤ k) wr w9 := (Turns.alloc _ wr _).trans (hT'.wider fun k h => .inl h)
        have HQ9 := Lib.hid (show Row w9 61 1 (fun k => w.heap.size ≤ k) (.slice (some ⟨B', off', none⟩) (done.length + 1) cap') (done ++ [(P, D, W)]).length (vs ++ [.pointer (some ⟨b, 0, none⟩)]) by
          rw [List.length_append]
          exact .inr (hq'.kept (Keeps.refl _ _) fun k _ h => h.elim id fun h => by have := h.1; rw [hs9] at this; have := HB.out.size; omega))
        have HB9 := Lib.hid (HB.out.trans (T9.below HB.out.size fun k h => h))
        have HV9 := Lib.hid ((HRV.out.append (show RPV wr K NB [(P, D, W)] [.pointer (some ⟨b, 0, none⟩)] from ⟨rfl, fun i hi => by
          have e : i = 0 := by simp at hi; omega
          subst e
          exact ⟨b, rfl, HN.out⟩⟩)).kept (K' := K) (T9.keeps fun k hk e => by have := HK.out k hk; have h7 : w.heap.size ≤ k := e; omega) fun _ _ h => h)
        clear hq' hT' T9 hs9 HROW HNEW HRW HRV
        go_wp2_with fail
        go_roundw
        case rel => exact ⟨j + 1, vs ++ [.pointer (some ⟨b, 0, none⟩)], _, rfl, by omega, by go_num, by rw [HSN2.out]; exact HQ9.out, by rw [HSN2.out]; exact HV9.out, HB9.out⟩
        case measure => simp [intOf]; omega
    · have HE := Lib.hid (show outerP (items.take j) = outerP items by rw [List.take_of_length_le (by omega)])
      obtain ⟨A9, c9, rfl, hR⟩ := rps_of_row HRW.out HRV.out
      have HR := Lib.hid hR
      clear hR
      go_wp2_with fail
      go_ret
      exact ⟨A9, c9, ret_slN (by rw [HE.out]), by rw [← HE.out]; exact HR.out, HB.out⟩
end Go.Proofs.YtdpjdhllaokbfaaGreat
