/-
  A queue: a slice that may begin inside its row; what is appended to it; its first one taken off.
-/
import Derived.Test.YteodlcgmncchpaaIter
import Derived.Deep.AppendSrc
import Derived.OwnWalkIn
namespace Go.Proofs.Yteodlcgmncchpaa
open Go.RowKit

/-- The slice v holds n elements, the cells xs, in a row of O's. -/
def Que (w : World) (e : TypeId) (size : Nat) (O : Nat → Prop) (v : Value) (n : Nat) (xs : List Value) : Prop :=
  ∃ B off cap cs, v = .slice (some ⟨B, off, none⟩) n cap ∧ n ≤ cap ∧ w.heap[B]? = some (.cells cs e (0, 0)) ∧ off + cap * size ≤ cs.size ∧ O B ∧ xs.length = n * size ∧ ∀ j, j < xs.length → cs[off + j]? = xs[j]?

theorem Que.kept {w w' : World} {e : TypeId} {size : Nat} {O O' : Nat → Prop} {v : Value} {n : Nat} {xs : List Value} (h : Que w e size O v n xs) (hk : Keeps O w w') (hO : ∀ k, k < w.heap.size → O k → O' k) : Que w' e size O' v n xs := by
  obtain ⟨B, off, cap, cs, hv, hn, hb, hs, ho, hx, hc⟩ := h
  exact ⟨B, off, cap, cs, hv, hn, (hk.2 B (Array.getElem?_eq_some_iff.1 hb).1 ho).trans hb, hs, hO B (Array.getElem?_eq_some_iff.1 hb).1 ho, hx, hc⟩

theorem Que.made (w : World) (e : TypeId) (size : Nat) (O : Nat → Prop) (cs : Array Value) (n : Nat) (hs : cs.size = n * size) (hO : O w.heap.size) :
    Que (w.alloc (.cells cs e)) e size O (.slice (some ⟨w.heap.size, 0, none⟩) n n) n cs.toList :=
  ⟨w.heap.size, 0, n, cs, rfl, Nat.le_refl _, World.alloc_heap_new w _, by omega, hO, by simpa using hs, fun j hj => by simp⟩

/-- Its first element, and the rest. -/
theorem Que.cells {w : World} {e : TypeId} {size : Nat} {O : Nat → Prop} {v : Value} {n : Nat} {xs : List Value} (h : Que w e size O v n xs) :
    ∃ B off cap, v = .slice (some ⟨B, off, none⟩) n cap ∧ n ≤ cap ∧ O B ∧ B < w.heap.size ∧ ∀ j, j < xs.length → w.cell? ⟨B, off + j, none⟩ = xs[j]? := by
  obtain ⟨B, off, cap, cs, hv, hn, hb, hs, ho, hx, hc⟩ := h
  refine ⟨B, off, cap, hv, hn, ho, (Array.getElem?_eq_some_iff.1 hb).1, fun j hj => ?_⟩
  rw [cell_of_row w B (off + j) cs e (0, 0) hb]
  exact hc j hj

theorem Que.tail {w : World} {e : TypeId} {size : Nat} {O : Nat → Prop} {B off cap n : Nat} {xs : List Value} (h : Que w e size O (.slice (some ⟨B, off, none⟩) (n + 1) cap) (n + 1) xs) :
    Que w e size O (.slice (some ⟨B, off + size, none⟩) n (cap - 1)) n (xs.drop size) := by
  obtain ⟨B', off', cap', cs, hv, hn, hb, hs, ho, hx, hc⟩ := h
  simp only [Value.slice.injEq, Option.some.injEq, Addr.mk.injEq, and_true, true_and] at hv
  obtain ⟨⟨rfl, rfl⟩, rfl⟩ := hv
  have e1 : (n + 1) * size = n * size + size := Nat.succ_mul n size
  have e2 : cap * size = (cap - 1) * size + size := by rw [← Nat.succ_mul, Nat.succ_eq_add_one, Nat.sub_add_cancel (by omega)]
  refine ⟨B, off + size, cap - 1, cs, rfl, by omega, hb, by omega, ho, by rw [List.length_drop]; omega, fun j hj => ?_⟩
  rw [List.length_drop] at hj
  rw [List.getElem?_drop, Nat.add_assoc]
  exact hc (size + j) (by omega)

/-- The rest of one whose capacity is one. -/
theorem Que.tail0 {w : World} {e : TypeId} {O : Nat → Prop} {size B off cap n : Nat} {xs : List Value} (h : Que w e size O (.slice (some ⟨B, off, none⟩) (n + 1) cap) (n + 1) xs) (h1 : cap = 1) :
    Que w e size O (.slice (some ⟨B, off, none⟩) n 0) n (xs.drop size) := by
  obtain ⟨B', off', cap', cs, hv, hn, hb, hs, ho, hx, hc⟩ := h
  simp only [Value.slice.injEq, Option.some.injEq, Addr.mk.injEq, and_true, true_and] at hv
  obtain ⟨⟨rfl, rfl⟩, rfl⟩ := hv
  obtain rfl : n = 0 := by omega
  have hl : (xs.drop size).length = 0 := by rw [List.length_drop, hx]; omega
  exact ⟨B, off, 0, cs, rfl, Nat.le_refl _, hb, by omega, ho, by rw [hl]; omega, fun j hj => absurd hj (by omega)⟩

theorem setCells_block (b : Nat) (e : TypeId) : ∀ (vs : List Value) (o : Nat) (w : World) (cs : Array Value), w.heap[b]? = some (.cells cs e (0, 0)) →
    (∃ cs', (w.setCells b o vs).heap[b]? = some (.cells cs' e (0, 0)) ∧ cs'.size = cs.size ∧ (∀ j, j < vs.length → o + j < cs.size → cs'[o + j]? = vs[j]?) ∧ (∀ k, k < o ∨ o + vs.length ≤ k → cs'[k]? = cs[k]?)) ∧
    Turns (fun k => k = b) w (w.setCells b o vs) ∧ (w.setCells b o vs).heap.size = w.heap.size
  | [], o, w, cs, h => ⟨⟨cs, h, rfl, fun j hj => absurd hj (by simp), fun _ _ => rfl⟩, Turns.refl _ _, rfl⟩
  | v :: vs, o, w, cs, h => by
    have h1 : (w.setCell ⟨b, o, none⟩ v).heap[b]? = some (.cells (cs.setIfInBounds o v) e (0, 0)) := by simp [World.setCell, Array.getElem?_modify, h]
    obtain ⟨⟨cs', a1, a2, a3, a4⟩, a5, a6⟩ := setCells_block b e vs (o + 1) _ _ h1
    have hs0 : (w.setCell ⟨b, o, none⟩ v).heap.size = w.heap.size := by simp
    refine ⟨⟨cs', a1, by simpa using a2, fun j hj hb => ?_, fun k hk => ?_⟩, (Turns.setCell (O := fun k => k = b) (p := ⟨b, o, none⟩) rfl v).trans (a5.wider fun k hk => .inl hk), a6.trans hs0⟩
    · cases j with
      | zero => rw [Nat.add_zero, a4 o (.inl (by omega))]; simp at hb ⊢; rw [Array.getElem?_setIfInBounds_self_of_lt hb]
      | succ j =>
        have := a3 j (by simpa using hj) (by simp; omega)
        rw [show o + (j + 1) = o + 1 + j by omega, this]; simp
    · simp only [List.length_cons] at hk
      rw [a4 k (by omega), Array.getElem?_setIfInBounds_ne (by omega)]

/-- More behind it. -/
theorem run_append_que {P : Program} (w : World) (t ty e : TypeId) (i : TypeInfo) (z : Value) (size : Nat) (ht : P.underlying t = some (.slice e)) (hi : P.info? e = some i) (hz : i.zero = some z) (hsize : i.size = size) (hby : i.bytes ≤ 1024) (hzs : z.cells.size = size)
    (O : Nat → Prop) (v : Value) (n : Nat) (xs : List Value) (hq : Que w e size O v n xs) (a : Addr) (m c : Nat) (news : List Value) (hl : news.length = m * size) (hnews : ∀ j u, news[j]? = some u → w.cell? (a.add j) = some u) (h1 : ∀ u ∈ news, u.oneCell' = true) (hn : n + m ≤ 1048576) :
    ∃ v' w', (Builtin.append_ #[t, t] ty #[v, .slice (some a) m c]).run P w = .ok v' w' ∧ Que w' e size (more O w w') v' (n + m) (xs ++ news) ∧ Turns O w w' := by
  obtain ⟨B, off, cap, cs, rfl, hle, hb, hs, ho, hx, hc⟩ := hq
  have hsrc := Src.ofSlice (P := P) (w := w) (size := i.size) ht a m c news (by rw [hsize]; exact hl) hnews h1
  have hxl : (xs ++ news).length = (n + m) * size := by rw [List.length_append, hx, hl, Nat.add_mul]
  by_cases hfit : n + m ≤ cap
  · have hcm : (n + m) * size ≤ cap * size := Nat.mul_le_mul_right _ hfit
    rw [Nat.add_mul] at hcm
    have hrun := run_append_room_src (P := P) w t t ty e i ht hi B off n cap _ m news hsrc hfit
      (fun j hj => by
        rw [cell_of_row w B _ cs e (0, 0) hb, hsize, Array.getElem?_eq_getElem (by rw [hl] at hj; omega)]; rfl)
      (fun j hj => by simp [World.frozen?, hb])
    obtain ⟨⟨cs', a1, a2, a3, a4⟩, a5, a6⟩ := setCells_block B e news (off + n * i.size) w cs hb
    refine ⟨_, _, hrun, ⟨B, off, cap, cs', rfl, hfit, a1, by omega, .inl ho, hxl, fun j hj => ?_⟩, a5.wider fun k hk => hk ▸ ho⟩
    rw [hsize] at a3 a4
    by_cases hj1 : j < xs.length
    · rw [a4 _ (.inl (by omega)), hc j hj1, List.getElem?_append_left hj1]
    · have hj2 : j - xs.length < news.length := by rw [List.length_append] at hj; omega
      have := a3 (j - xs.length) hj2 (by rw [hl] at hj2; omega)
      rw [List.getElem?_append_right (by omega), ← this]
      congr 1; omega
  · have hold : (Builtin.firstCells i.size n (.slice (some ⟨B, off, none⟩) n cap)).run P w.drew = .ok xs.toArray w.drew :=
      run_firstCells_some w.drew i.size n ⟨B, off, none⟩ n cap xs (by rw [hsize]; exact hx) (fun j u hu => by
        have hj : j < xs.length := (List.getElem?_eq_some_iff.1 hu).1
        have hadd : (⟨B, off, none⟩ : Addr).add j = ⟨B, off + j, none⟩ := by unfold Addr.add; split <;> simp_all
        rw [hadd, cell_of_row w.drew B (off + j) cs e (0, 0) hb, hc j hj, hu])
    have hg : cap < n + m := by omega
    have hb48 : (n + m) * i.bytes ≤ 1048576 * 1024 := Nat.mul_le_mul hn hby
    have hrun := run_append_grow_src (P := P) w t t ty e i z ht hi hz (some ⟨B, off, none⟩) n cap xs hold _ m news hsrc hg (by omega) (growslice_fits hg (by omega))
    have hge := grownCap_ge w (n + m) cap e
    refine ⟨_, _, hrun, ⟨w.heap.size, 0, _, _, rfl, hge, World.alloc_heap_new w.drew _, ?_, .inr ⟨Nat.le_refl _, by simp⟩, hxl, fun j hj => ?_⟩, (Turns.drew O w).trans ((Turns.alloc O w.drew _).wider fun k hk => .inl hk)⟩
    · rw [Array.size_append, List.size_toArray, hxl, size_zeroCells, hzs, ← Nat.add_mul, Nat.zero_add]
      exact Nat.mul_le_mul_right _ (by omega)
    · rw [Nat.zero_add, Array.getElem?_append_left (by simpa using hj), List.getElem?_toArray]

theorem wpListIn_append_que {F : Fence} {n : Nat} {P : Program} (w : World) {ops : Array Oper} {rest : List Oper} {o : Oper} {a : Act} {Q : Exit → Act → World → Prop}
    (hg : o.guard = none) (s x : Operand) (t : TypeId) (hop : o.op = Op.call { callee := Callee.builtin Builtin.append, args := #[s, x], argTypes := #[t, t] })
    (e : TypeId) (i : TypeInfo) (z : Value) (size : Nat) (ht : P.underlying t = some (.slice e)) (hi : P.info? e = some i) (hz : i.zero = some z) (hsize : i.size = size) (hby : i.bytes ≤ 1024) (hzs : z.cells.size = size)
    (O : Nat → Prop) (v : Value) (k : Nat) (xs : List Value) (hs : a.eval s = v) (hq : Que w e size O v k xs) (ad : Addr) (m c : Nat) (news : List Value) (hx : a.eval x = .slice (some ad) m c) (hl : news.length = m * size)
    (hc : ∀ j u, news[j]? = some u → w.cell? (ad.add j) = some u) (h1c : ∀ u ∈ news, u.oneCell' = true) (b1 : k + m ≤ 1048576)
    (hK : ∀ v' w', Que w' e size (more O w w') v' (k + m) (xs ++ news) → Turns O w w' → wpListIn F n P ops Q rest (a.put o.dst v') w') :
    wpListIn F n P ops Q (o :: rest) a w := by
  refine wpListIn_plain hg fun K hK' => ?_
  obtain ⟨v', w', hrun, r1, r2⟩ := run_append_que (P := P) w t o.type e i z size ht hi hz hsize hby hzs O v k xs hq ad m c news hl hc h1c b1
  unfold Oper.wpIn
  refine ⟨?_, ?_⟩
  · simp [Oper.about, hop, resolve, Target.leads, Sem.run_pure]
  · rw [Oper.semAt_plain F _ _ (by rw [hop]; intro c hc'; cases hc')]
    simp [execOp, hop, resolve, invoke, builtin, hs, hx, hrun, Result.andThen]
    exact hK' _ _ (hK v' w' r1 r2)

/-- The same, or nil. -/
def Row (w : World) (e : TypeId) (size : Nat) (O : Nat → Prop) (v : Value) (n : Nat) (xs : List Value) : Prop := (v = .slice none 0 0 ∧ n = 0 ∧ xs = []) ∨ Que w e size O v n xs

theorem Row.nil (w : World) (e : TypeId) (size : Nat) (O : Nat → Prop) : Row w e size O (.slice none 0 0) 0 [] := .inl ⟨rfl, rfl, rfl⟩

theorem Row.kept {w w' : World} {e : TypeId} {size : Nat} {O O' : Nat → Prop} {v : Value} {n : Nat} {xs : List Value} (h : Row w e size O v n xs) (hk : Keeps O w w') (hO : ∀ k, k < w.heap.size → O k → O' k) : Row w' e size O' v n xs :=
  h.imp id fun h => h.kept hk hO

theorem run_append_row {P : Program} (w : World) (t ty e : TypeId) (i : TypeInfo) (z : Value) (size : Nat) (ht : P.underlying t = some (.slice e)) (hi : P.info? e = some i) (hz : i.zero = some z) (hsize : i.size = size) (hby : i.bytes ≤ 1024) (hzs : z.cells.size = size)
    (O : Nat → Prop) (v : Value) (n : Nat) (xs : List Value) (hq : Row w e size O v n xs) (a : Addr) (m c : Nat) (news : List Value) (hl : news.length = m * size) (hnews : ∀ j u, news[j]? = some u → w.cell? (a.add j) = some u) (h1 : ∀ u ∈ news, u.oneCell' = true) (hn : n + m ≤ 1048576) (hm : 0 < m) :
    ∃ v' w', (Builtin.append_ #[t, t] ty #[v, .slice (some a) m c]).run P w = .ok v' w' ∧ Que w' e size (more O w w') v' (n + m) (xs ++ news) ∧ Turns O w w' := by
  rcases hq with ⟨rfl, rfl, rfl⟩ | hq
  · have hsrc := Src.ofSlice (P := P) (w := w) (size := i.size) ht a m c news (by rw [hsize]; exact hl) hnews h1
    have hg : 0 < 0 + m := by omega
    have hb48 : (0 + m) * i.bytes ≤ 1048576 * 1024 := Nat.mul_le_mul hn hby
    have hrun := run_append_grow_src (P := P) w t t ty e i z ht hi hz none 0 0 [] (run_firstCells_none w.drew i.size 0 0 0) _ m news hsrc hg (by omega) (growslice_fits hg (by omega))
    have hge := grownCap_ge w (0 + m) 0 e
    refine ⟨_, _, hrun, ⟨w.heap.size, 0, _, _, rfl, hge, World.alloc_heap_new w.drew _, ?_, .inr ⟨Nat.le_refl _, by simp⟩, by rw [List.nil_append, hl, Nat.zero_add], fun j hj => ?_⟩, (Turns.drew O w).trans ((Turns.alloc O w.drew _).wider fun k hk => .inl hk)⟩
    · rw [Array.size_append, List.size_toArray, List.nil_append, hl, size_zeroCells, hzs, ← Nat.add_mul, Nat.zero_add]
      exact Nat.mul_le_mul_right _ (by omega)
    · rw [Array.getElem?_append_left (by simpa using hj), List.getElem?_toArray, Nat.zero_add]
  · exact run_append_que w t ty e i z size ht hi hz hsize hby hzs O v n xs hq a m c news hl hnews h1 hn

theorem wpListIn_append_row {F : Fence} {n : Nat} {P : Program} (w : World) {ops : Array Oper} {rest : List Oper} {o : Oper} {a : Act} {Q : Exit → Act → World → Prop}
    (hg : o.guard = none) (s x : Operand) (t : TypeId) (hop : o.op = Op.call { callee := Callee.builtin Builtin.append, args := #[s, x], argTypes := #[t, t] })
    (e : TypeId) (i : TypeInfo) (z : Value) (size : Nat) (ht : P.underlying t = some (.slice e)) (hi : P.info? e = some i) (hz : i.zero = some z) (hsize : i.size = size) (hby : i.bytes ≤ 1024) (hzs : z.cells.size = size)
    (O : Nat → Prop) (v : Value) (k : Nat) (xs : List Value) (hs : a.eval s = v) (hq : Row w e size O v k xs) (ad : Addr) (m c : Nat) (news : List Value) (hx : a.eval x = .slice (some ad) m c) (hl : news.length = m * size)
    (hc : ∀ j u, news[j]? = some u → w.cell? (ad.add j) = some u) (h1c : ∀ u ∈ news, u.oneCell' = true) (b1 : k + m ≤ 1048576) (hm : 0 < m)
    (hK : ∀ v' w', Que w' e size (more O w w') v' (k + m) (xs ++ news) → Turns O w w' → wpListIn F n P ops Q rest (a.put o.dst v') w') :
    wpListIn F n P ops Q (o :: rest) a w := by
  refine wpListIn_plain hg fun K hK' => ?_
  obtain ⟨v', w', hrun, r1, r2⟩ := run_append_row (P := P) w t o.type e i z size ht hi hz hsize hby hzs O v k xs hq ad m c news hl hc h1c b1 hm
  unfold Oper.wpIn
  refine ⟨?_, ?_⟩
  · simp [Oper.about, hop, resolve, Target.leads, Sem.run_pure]
  · rw [Oper.semAt_plain F _ _ (by rw [hop]; intro c hc'; cases hc')]
    simp [execOp, hop, resolve, invoke, builtin, hs, hx, hrun, Result.andThen]
    exact hK' _ _ (hK v' w' r1 r2)

end Go.Proofs.Yteodlcgmncchpaa
