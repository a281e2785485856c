/-
  The program's lists of parts: those among items, with and without those within them.
-/
import Derived.Test.YtdpjdhllaokbfaaItemsP
import Derived.Deep.Upon
namespace Go.Proofs.Ytdpjdhllaokbfaa
open Go.RowKit Go.Sort Go.Shelf

/-- Pointers to parts. -/
def RPV (w : World) (K : Nat → Prop) (NB : Nat) (rs : List PT) (vs : List Value) : Prop := vs.length = rs.length ∧ ∀ i (h : i < rs.length), ∃ b, vs[i]? = some (.pointer (some ⟨b, 0, none⟩)) ∧ NIAt w K NB rs[i].ni (.iface 40 (.pointer (some ⟨b, 0, none⟩)))
theorem RPV.nil (w : World) (K : Nat → Prop) (NB : Nat) : RPV w K NB [] [] := ⟨rfl, fun i h => absurd h (by simp)⟩
theorem RPV.below {w w' : World} {K : Nat → Prop} {NB : Nat} {rs : List PT} {vs : List Value} (h : RPV w K NB rs vs) (hb : Below w.heap.size w w') : RPV w' K NB rs vs := ⟨h.1, fun i hi => by
  obtain ⟨b, h1, h2⟩ := h.2 i hi
  exact ⟨b, h1, h2.below hb⟩⟩
theorem RPV.kept {w w' : World} {K K' : Nat → Prop} {NB : Nat} {rs : List PT} {vs : List Value} (h : RPV w K NB rs vs) (hk : Keeps K w w') (hK : ∀ k, k < w.heap.size → K k → K' k) : RPV w' K' NB rs vs := ⟨h.1, fun i hi => by
  obtain ⟨b, h1, h2⟩ := h.2 i hi
  exact ⟨b, h1, NIAt.kept hk hK _ _ h2⟩⟩
theorem RPV.append {w : World} {K : Nat → Prop} {NB : Nat} {rs rs' : List PT} {vs vs' : List Value} (h : RPV w K NB rs vs) (k : RPV w K NB rs' vs') : RPV w K NB (rs ++ rs') (vs ++ vs') := by
  refine ⟨by simp [h.1, k.1], fun i hi => ?_⟩
  by_cases hl : i < rs.length
  · obtain ⟨b, h1, h2⟩ := h.2 i hl
    simp only [List.getElem_append_left hl]
    exact ⟨b, by rw [List.getElem?_append_left (by rw [h.1]; exact hl)]; exact h1, h2⟩
  · have hi2 : i - rs.length < rs'.length := by simp at hi; omega
    obtain ⟨b, h1, h2⟩ := k.2 (i - rs.length) hi2
    simp only [List.getElem_append_right (Nat.le_of_not_lt hl)]
    exact ⟨b, by rw [List.getElem?_append_right (by rw [h.1]; omega), h.1]; exact h1, h2⟩
/-- Parts in a slice. -/
def RPsAt (w : World) (K : Nat → Prop) (NB : Nat) (rs : List PT) (A : Option Addr) : Prop := ∃ vs, ValK w (fun _ => True) A vs ∧ RPV w K NB rs vs
theorem RPsAt.below {w w' : World} {K : Nat → Prop} {NB : Nat} {rs : List PT} {A : Option Addr} (h : RPsAt w K NB rs A) (hb : Below w.heap.size w w') : RPsAt w' K NB rs A := by
  obtain ⟨vs, h1, h2⟩ := h
  exact ⟨vs, h1.kept ⟨hb.size, fun k hk _ => hb.block k hk⟩ fun _ _ h => h, h2.below hb⟩
theorem RPsAt.get {w : World} {K : Nat → Prop} {NB : Nat} {rs : List PT} {A : Option Addr} (h : RPsAt w K NB rs A) {i : Nat} (hi : i < rs.length) : ∃ b0 off b, A = some ⟨b0, off, none⟩ ∧ w.cell? ⟨b0, off + i, none⟩ = some (.pointer (some ⟨b, 0, none⟩)) ∧ NIAt w K NB rs[i].ni (.iface 40 (.pointer (some ⟨b, 0, none⟩))) := by
  obtain ⟨vs, h1, h2, h3⟩ := h
  obtain ⟨b, h4, h5⟩ := h3 i hi
  obtain ⟨b0, off, e, _, _, h6⟩ := h1 (by omega)
  refine ⟨b0, off, b, e, ?_, h5⟩
  rw [h6 i (by omega), ← h4, List.getElem?_eq_getElem (by omega)]
theorem rps_of_row {w : World} {O : Nat → Prop} {K : Nat → Prop} {NB : Nat} {rs : List PT} {v : Value} {vs : List Value} (h : Row w 40 1 O v rs.length vs) (hp : RPV w K NB rs vs) : ∃ A c, v = .slice A rs.length c ∧ RPsAt w K NB rs A := by
  rcases h with ⟨h1, h2, h3⟩ | hq
  · exact ⟨none, 0, by rw [h1, h2], vs, (fun h => by rw [h3] at h; cases h), hp⟩
  · obtain ⟨B7, o7, c7, h1, _, h3, h4, h5⟩ := hq.cells
    exact ⟨_, c7, h1, vs, fun _ => ⟨B7, o7, rfl, trivial, h4, fun i hi => by rw [h5 i hi, List.getElem?_eq_getElem hi]⟩, hp⟩

theorem info_rp : (Try.prog.info? 40).map (fun i => (i.zero, i.size, i.bytes)) = some (some (.pointer none), 1, 8) := by kernel_rfl
theorem assert_lone (u : Value) (w : World) : (Instr.typeAssert (.iface 73 (.agg #[u])) 76 40 true).run Try.prog w = .ok (.tuple #[.pointer none, .bool false]) w := by kernel_rfl
theorem assert_part (b : Nat) (w : World) : (Instr.typeAssert (.iface 40 (.pointer (some ⟨b, 0, none⟩))) 76 40 true).run Try.prog w = .ok (.tuple #[.pointer (some ⟨b, 0, none⟩), .bool true]) w := by kernel_rfl
theorem look_lone (u : Value) (w : World) : (method 261 73 (.agg #[u]) "loop.example/structuredjumps/impl.parts").run Try.prog w = .ok (112, .agg #[u]) w := by kernel_rfl
theorem look_part (b : Nat) (w : World) : (method 261 40 (.pointer (some ⟨b, 0, none⟩)) "loop.example/structuredjumps/impl.parts").run Try.prog w = .ok (117, .pointer (some ⟨b, 0, none⟩)) w := by kernel_rfl

/-- append of nothing. -/
theorem wpList_append_rowN {P : Program} {w : World} {ops : Array Oper} {rest : List Oper} {o : Oper} {a : Act} {Q : Exit → Act → World → Prop} (hgd : o.guard = none) (s x : Operand) (t : TypeId)
    (hop : o.op = Op.call { callee := Callee.builtin Builtin.append, args := #[s, x], argTypes := #[t, t] })
    (e : TypeId) (i : TypeInfo) (ht : P.underlying t = some (.slice e)) (hi : P.info? e = some i)
    (O : Nat → Prop) (v : Value) (k : Nat) (xs : List Value) (hs : a.eval s = v) (hq : Row w e 1 O v k xs) (A : Option Addr) (c : Nat) (hx : a.eval x = .slice A 0 c)
    (hK : wpList P ops Q rest (a.put o.dst v) w) :
    wpList P ops Q (o :: rest) a w := by
  refine wpList_plain hgd fun K hK' => ?_
  have hsrc : Src P i.size t (.slice A 0 c) 0 [] w := by
    cases A with
    | none => exact Src.ofNil (w := w) ht c
    | some ad => exact Src.ofSlice (w := w) ht ad 0 c [] (by simp) (fun j u h => by simp at h) (fun u h => by cases h)
  have hrun : (Builtin.append_ #[t, t] o.type #[v, .slice A 0 c]).run P w = .ok v w := by
    rcases hq with ⟨rfl, _, _⟩ | ⟨B, off, cap, cs, rfl, hn, _⟩
    · exact run_append_nothing w t t o.type e i ht hi none 0 0 (Nat.le_refl _) _ hsrc
    · exact run_append_nothing w t t o.type e i ht hi _ k cap hn _ hsrc
  unfold Oper.wp execOp
  simp only [hop, resolve, invoke, builtin, Sem.run_bind, Sem.run_pure, Result.andThen_ok, List.map_toArray, List.map_cons, List.map_nil, hs, hx, hrun]
  exact hK' _ _ hK


set_option maxRecDepth 100000 in
set_option maxHeartbeats 4000000 in
theorem outerParts_any (NB : Nat) (items : List NI) (A : Option Addr) (cap : Nat) (K : Nat → Prop) (w : World) (hil : items.length ≤ 10000) (hK : ∀ k, K k → k < w.heap.size) (hI : NIsAt w K NB items A) :
    Calls Try.prog 22 #[.slice A items.length cap] w fun e w' => ∃ A' c', e = .returned (.slice A' (outerP items).length c') ∧ RPsAt w' K NB (outerP items) A' ∧ Below w.heap.size w w' := by
  obtain ⟨i0, hi0, hz0, hz1, hz2⟩ := info_parts info_rp
  have HI := Lib.hid hI
  have HK := Lib.hid hK
  clear hI hK
  go_enter Try.func22, Try.ntmps22
  go_wp2_with fail
  go_loopw [3, 10] (fun v0 i wr => ∃ (j : Nat) (vs : List Value) (v : Value), v = v0 ∧ j ≤ items.length ∧ i = .int .i64 j ∧ Hid (Row wr 40 1 (fun k => w.heap.size ≤ k) v (outerP (items.take j)).length vs) ∧ Hid (RPV wr K NB (outerP (items.take j)) vs) ∧ Hid (Below w.heap.size w wr)) (fun _ i _ => items.length - (intOf i).toNat)
  case atStart => exact ⟨0, [], _, rfl, Nat.zero_le _, rfl, Row.nil _ _ _ _, RPV.nil _ _ _, Below.refl _ _⟩
  case round =>
    obtain ⟨j, vs, v, rfl, hj, rfl, HRW, HRV, HB⟩ := hrel
    by_cases hlt : j < items.length
    · obtain ⟨xs, h1, h2, h3⟩ := HI.out
      obtain ⟨u, hu1, hu2⟩ := NIsV.get items xs h3 j hlt
      obtain ⟨b0, off0, rfl, _, hb0, hc0⟩ := h2 (by omega)
      have cx : wr.cell? ⟨b0, off0 + j, none⟩ = some u := by
        rw [HB.out.cell (p := ⟨b0, off0 + j, none⟩) hb0, hc0 j (by omega), ← hu1, List.getElem?_eq_getElem (by omega)]
      obtain ⟨x, hx⟩ : ∃ x, x = items[j] := ⟨_, rfl⟩
      rw [← hx] at hu2
      have HSN := Lib.hid (show outerP (items.take (j + 1)) = outerP (items.take j) ++ outerN x by rw [List.take_succ_eq_append_getElem hlt, outerP_snoc, ← hx])
      have hal : (outerP (items.take j)).length ≤ 10000 := by have := outerP_len (items.take j); rw [List.length_take] at this; omega
      obtain ⟨done, hdone⟩ : ∃ done, done = outerP (items.take j) := ⟨_, rfl⟩
      rw [← hdone] at HRW HRV HSN hal
      clear hx h1 h2 h3 hu1 hc0 hdone
      cases x with
      | blk i =>
        have hu : u = .iface 73 (.agg #[nptr NB i]) := by unfold NIAt at hu2; exact hu2
        subst hu
        have hass := fun w => assert_lone (nptr NB i) w
        have HSN2 := Lib.hid (show outerP (items.take (j + 1)) = done by rw [HSN.out]; exact List.append_nil _)
        clear hu2
        go_wp2_with fail
        go_roundw
        case rel => exact ⟨j + 1, vs, _, rfl, by omega, by go_num, by rw [HSN2.out]; exact HRW.out, by rw [HSN2.out]; exact HRV.out, HB.out⟩
        case measure => simp [intOf]; omega
      | part P D W =>
        have hu : ∃ b, u = .iface 40 (.pointer (some ⟨b, 0, none⟩)) := by
          have hu3 := hu2
          unfold NIAt at hu3
          obtain ⟨b, _, _, _, _, _, _, _, hv, _⟩ := hu3
          exact ⟨b, hv⟩
        obtain ⟨b, rfl⟩ := hu
        have hass := fun w => assert_part b w
        have HSN2 := Lib.hid (show outerP (items.take (j + 1)) = done ++ [(P, D, W)] from HSN.out)
        have HN := Lib.hid (hu2.below HB.out)
        have HROW := Lib.hid (show Row (wr.alloc (.cells #[.pointer (some ⟨b, 0, none⟩)] 40)) 40 1 (fun k => w.heap.size ≤ k) v done.length vs from
          HRW.out.kept (Turns.keeps (O := fun _ => False) (Turns.alloc _ _ _) fun _ _ h => h) fun _ _ h => h)
        have HNEW := Lib.hid (cell_one_new wr (.pointer (some ⟨b, 0, none⟩)) 40)
        clear hu2
        go_wp2_with (at_builtin; go_loud (refine wpList_append_rowK (by rfl) _ _ _ (by rfl) 40 i0 (.pointer none) 1 Try.underlying54 hi0 hz0 hz1 (by rw [hz2]; decide) rfl (fun k => w.heap.size ≤ k) v done.length vs (by rfl) HROW.out ⟨wr.heap.size, 0, none⟩ 1 1 [.pointer (some ⟨b, 0, none⟩)] (by rfl) (by rfl) HNEW.out (by simp [Value.oneCell']) ?c3 (by decide) ?_))
        case c3 => omega
        intro v' w9 hq' hT'
        obtain ⟨B', off', cap', rfl, _⟩ := hq'.cells
        have hs9 : (wr.alloc (.cells #[.pointer (some ⟨b, 0, none⟩)] 40)).heap.size = wr.heap.size + 1 := by simp
        have T9 : Turns (fun k => w.heap.size ≤ k) wr w9 := (Turns.alloc _ wr _).trans (hT'.wider fun k h => .inl h)
        have HQ9 := Lib.hid (show Row w9 40 1 (fun k => w.heap.size ≤ k) (.slice (some ⟨B', off', none⟩) (done.length + 1) cap') (done ++ [(P, D, W)]).length (vs ++ [.pointer (some ⟨b, 0, none⟩)]) by
          rw [List.length_append]
          exact .inr (hq'.kept (Keeps.refl _ _) fun k _ h => h.elim id fun h => by have := h.1; rw [hs9] at this; have := HB.out.size; omega))
        have HB9 := Lib.hid (HB.out.trans (T9.below HB.out.size fun k h => h))
        have HV9 := Lib.hid ((HRV.out.append (show RPV wr K NB [(P, D, W)] [.pointer (some ⟨b, 0, none⟩)] from ⟨rfl, fun i hi => by
          have e : i = 0 := by simp at hi; omega
          subst e
          exact ⟨b, rfl, HN.out⟩⟩)).kept (K' := K) (T9.keeps fun k hk e => by have := HK.out k hk; have h7 : w.heap.size ≤ k := e; omega) fun _ _ h => h)
        clear hq' hT' T9 hs9 HROW HNEW HRW HRV
        go_wp2_with fail
        go_roundw
        case rel => exact ⟨j + 1, vs ++ [.pointer (some ⟨b, 0, none⟩)], _, rfl, by omega, by go_num, by rw [HSN2.out]; exact HQ9.out, by rw [HSN2.out]; exact HV9.out, HB9.out⟩
        case measure => simp [intOf]; omega
    · have HE := Lib.hid (show outerP (items.take j) = outerP items by rw [List.take_of_length_le (by omega)])
      obtain ⟨A9, c9, rfl, hR⟩ := rps_of_row HRW.out HRV.out
      have HR := Lib.hid hR
      clear hR
      go_wp2_with fail
      go_ret
      exact ⟨A9, c9, ret_slN (by rw [HE.out]), by rw [← HE.out]; exact HR.out, HB.out⟩
end Go.Proofs.Ytdpjdhllaokbfaa
