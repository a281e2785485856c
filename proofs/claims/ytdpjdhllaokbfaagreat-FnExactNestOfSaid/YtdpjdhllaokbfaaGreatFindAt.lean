/-
  The program's finder of parts as it lies.
-/
import Derived.Test.YtdpjdhllaokbfaaGreatPartKit
import Derived.Test.YtdpjdhllaokbfaaGreatPartMath
namespace Go.Proofs.YtdpjdhllaokbfaaGreat
open Go.RowKit Go.Sort Go.Shelf

theorem row_pts {w : World} {O : Nat → Prop} {v : Value} {NB : Nat} {l : List Nat} (h : Row w 73 1 O v l.length (l.map (nptr NB))) : ∃ A cap, v = .slice A l.length cap ∧ PtsI w A NB l ∧ l.length ≤ cap := by
  rcases h with ⟨rfl, h1, h2⟩ | h
  · exact ⟨none, 0, by rw [h1], fun h => by omega, by omega⟩
  · obtain ⟨B, off, cap, rfl, hc, _, hb, hx⟩ := h.cells
    refine ⟨_, cap, rfl, fun _ => ⟨B, off, rfl, hb, fun i hi => ?_⟩, hc⟩
    rw [hx i (by simpa using hi), List.getElem?_map, List.getElem?_eq_getElem hi]; rfl
theorem PtsI.below {w w' : World} {A : Option Addr} {NB : Nat} {l : List Nat} (h : PtsI w A NB l) (hb : Below w.heap.size w w') : PtsI w' A NB l := fun hl => by
  obtain ⟨b, off, e, hlt, hc⟩ := h hl
  have := hb.size
  exact ⟨b, off, e, by omega, fun k hk => (hb.cell (p := ⟨b, off + k, none⟩) hlt).trans (hc k hk)⟩
/-- The first elements alone. -/
theorem Que.take {w : World} {e : TypeId} {O : Nat → Prop} {B off cap n k : Nat} {xs : List Value} (h : Que w e 1 O (.slice (some ⟨B, off, none⟩) n cap) n xs) (hk : k ≤ n) :
    Que w e 1 O (.slice (some ⟨B, off, none⟩) k cap) k (xs.take k) := by
  obtain ⟨B', off', cap', cs, hv, hn, hb, hs, ho, hx, hc⟩ := h
  simp only [Value.slice.injEq, Option.some.injEq, Addr.mk.injEq, and_true, true_and] at hv
  obtain ⟨⟨rfl, rfl⟩, rfl⟩ := hv
  refine ⟨B, off, cap, cs, rfl, by omega, hb, hs, ho, by rw [List.length_take]; omega, fun j hj => ?_⟩
  rw [List.length_take] at hj
  rw [hc j (by omega), List.getElem?_take_of_lt (by omega)]

/-- Lists of blocks, each a slice of pointers to nodes in a row of O's. -/
def PartsIn (w : World) (O : Nat → Prop) (NB : Nat) (parts : List (List Nat)) (vs : List Value) : Prop :=
  vs.length = parts.length ∧ ∀ i (h : i < parts.length), ∃ B off cap, vs[i]? = some (.slice (some ⟨B, off, none⟩) parts[i].length cap) ∧ O B ∧ B < w.heap.size ∧ ∀ k (h : k < parts[i].length), w.cell? ⟨B, off + k, none⟩ = some (nptr NB parts[i][k])
theorem PartsIn.kept {w w' : World} {O O' : Nat → Prop} {NB : Nat} {parts : List (List Nat)} {vs : List Value} (h : PartsIn w O NB parts vs) (hk : Keeps O w w') (hO : ∀ k, k < w.heap.size → O k → O' k) : PartsIn w' O' NB parts vs :=
  ⟨h.1, fun i hi => by
    obtain ⟨B, off, cap, h1, h2, h3, h4⟩ := h.2 i hi
    have := hk.1
    refine ⟨B, off, cap, h1, hO B h3 h2, by omega, fun k hk2 => ?_⟩
    rw [World.cell?_of_block (hk.2 B h3 h2)]; exact h4 k hk2⟩
theorem PartsIn.snoc {w : World} {O : Nat → Prop} {NB : Nat} {parts : List (List Nat)} {vs : List Value} (h : PartsIn w O NB parts vs) {T : List Nat} {B off cap : Nat} (hO : O B) (hB : B < w.heap.size) (hc : ∀ k (h : k < T.length), w.cell? ⟨B, off + k, none⟩ = some (nptr NB T[k])) :
    PartsIn w O NB (parts ++ [T]) (vs ++ [.slice (some ⟨B, off, none⟩) T.length cap]) := by
  refine ⟨by simp [h.1], fun i hi => ?_⟩
  by_cases hl : i < parts.length
  · obtain ⟨B', off', cap', h1, h2⟩ := h.2 i hl
    simp only [List.getElem_append_left hl]
    exact ⟨B', off', cap', by rw [List.getElem?_append_left (by rw [h.1]; exact hl)]; exact h1, h2⟩
  · have e : i = parts.length := by simp at hi; omega
    subst e
    simp only [List.getElem_append_right (Nat.le_refl _), Nat.sub_self, List.getElem_singleton]
    exact ⟨B, off, cap, by rw [← h.1, List.getElem?_append_right (Nat.le_refl _), Nat.sub_self]; rfl, hO, hB, hc⟩

/-- The finder: its block, its stack, its parts. The letter r tells whose each block is: 1 the finder's, 2 the stack's, 3 the row of parts, 4 the parts', 0 nobody's here. -/
structure FindAt (w : World) (B0 : Nat) (r : Nat → Nat) (FB NB q cnt : Nat) (num : Nat → Nat) (v u : Value) (stk : List Nat) (parts : List (List Nat)) : Prop where
  blk : ∃ cs, Blk w FB 124 cs ∧ cs.size = 30 ∧ cs[0]? = some (.int .u32 q) ∧ cs[1]? = some (.int .i64 cnt) ∧ (∀ k, k < 26 → cs[2 + k]? = some (.int .i64 (num k))) ∧ cs[28]? = some v ∧ cs[29]? = some u
  srow : Row w 73 1 (fun k => r k = 2) v stk.length (stk.map (nptr NB))
  prow : ∃ vs, Row w 54 1 (fun k => r k = 3) u parts.length vs ∧ PartsIn w (fun k => r k = 4) NB parts vs
  rf : r FB = 1
  lo : ∀ k, k < w.heap.size → r k ≠ 0 → B0 ≤ k

section
variable {w w' : World} {B0 FB NB q cnt : Nat} {r : Nat → Nat} {num : Nat → Nat} {v u : Value} {stk : List Nat} {parts : List (List Nat)}
theorem FindAt.lt (h : FindAt w B0 r FB NB q cnt num v u stk parts) : FB < w.heap.size := by obtain ⟨cs, hb, _⟩ := h.blk; exact hb.lt
theorem FindAt.low (h : FindAt w B0 r FB NB q cnt num v u stk parts) : B0 ≤ FB := h.lo FB h.lt (by rw [h.rf]; decide)
theorem FindAt.c0 (h : FindAt w B0 r FB NB q cnt num v u stk parts) : w.cell? ⟨FB, 0, none⟩ = some (.int .u32 q) := by obtain ⟨cs, hb, _, h0, _⟩ := h.blk; rw [hb.cell]; exact h0
theorem FindAt.c1 (h : FindAt w B0 r FB NB q cnt num v u stk parts) : w.cell? ⟨FB, 1, none⟩ = some (.int .i64 cnt) := by obtain ⟨cs, hb, _, _, h0, _⟩ := h.blk; rw [hb.cell]; exact h0
theorem FindAt.cn (h : FindAt w B0 r FB NB q cnt num v u stk parts) {k : Nat} (hk : k < 26) : w.cell? ⟨FB, 2 + k, none⟩ = some (.int .i64 (num k)) := by obtain ⟨cs, hb, _, _, _, h0, _⟩ := h.blk; rw [hb.cell]; exact h0 k hk
theorem FindAt.cs (h : FindAt w B0 r FB NB q cnt num v u stk parts) : w.cell? ⟨FB, 28, none⟩ = some v := by obtain ⟨cs, hb, _, _, _, _, h0, _⟩ := h.blk; rw [hb.cell]; exact h0
theorem FindAt.cp (h : FindAt w B0 r FB NB q cnt num v u stk parts) : w.cell? ⟨FB, 29, none⟩ = some u := by obtain ⟨cs, hb, _, _, _, _, _, h0⟩ := h.blk; rw [hb.cell]; exact h0
theorem FindAt.free (h : FindAt w B0 r FB NB q cnt num v u stk parts) (k : Nat) : w.frozen? ⟨FB, k, none⟩ = false := by obtain ⟨cs, hb, _⟩ := h.blk; exact hb.frozen k

/-- What nobody of these owns is laid beside. -/
theorem FindAt.below (h : FindAt w B0 r FB NB q cnt num v u stk parts) (hb : Below w.heap.size w w') (d : Nat) : FindAt w' B0 (fun k => if k < w.heap.size then r k else d) FB NB q cnt num v u stk parts := by
  have hk : ∀ O : Nat → Prop, Keeps O w w' := fun O => ⟨hb.size, fun k hk _ => hb.block k hk⟩
  have ho : ∀ m, ∀ k, k < w.heap.size → r k = m → (if k < w.heap.size then r k else d) = m := fun m k hk e => by rw [if_pos hk]; exact e
  obtain ⟨cs, hc, hr⟩ := h.blk
  obtain ⟨vs, h1, h2⟩ := h.prow
  refine ⟨⟨cs, (hb.block _ hc.lt).trans hc, hr⟩, h.srow.kept (hk _) (ho 2), ⟨vs, h1.kept (hk _) (ho 3), h2.kept (hk _) (ho 4)⟩, ?_, fun k _ hr => ?_⟩
  · show (if FB < w.heap.size then r FB else d) = 1
    rw [if_pos h.lt]; exact h.rf
  · by_cases hl : k < w.heap.size
    · rw [if_pos hl] at hr; exact h.lo k hl hr
    · have := h.low; have := h.lt; omega
theorem FindAt.drew (h : FindAt w B0 r FB NB q cnt num v u stk parts) : FindAt w.drew B0 r FB NB q cnt num v u stk parts := ⟨h.blk, h.srow, h.prow, h.rf, h.lo⟩
theorem FindAt.setF (h : FindAt w B0 r FB NB q cnt num v u stk parts) (j : Nat) (x : Value) : (∀ m, m ≠ 1 → Keeps (fun k => r k = m) w (w.setCell ⟨FB, j, none⟩ x)) ∧ (w.setCell ⟨FB, j, none⟩ x).heap.size = w.heap.size := by
  refine ⟨fun m hm => Turns.keeps (Turns.setCell (O := fun k => k = FB) (p := ⟨FB, j, none⟩) rfl x) fun k hk e => ?_, by simp⟩
  subst e; have := h.rf; omega
theorem FindAt.putCnt (h : FindAt w B0 r FB NB q cnt num v u stk parts) (c : Nat) : FindAt (w.setCell ⟨FB, 1, none⟩ (.int .i64 c)) B0 r FB NB q c num v u stk parts := by
  obtain ⟨hk, hz⟩ := h.setF 1 (.int .i64 c)
  obtain ⟨cs, hb, hs, h0, h1, h2, h3, h4⟩ := h.blk
  obtain ⟨vs, p1, p2⟩ := h.prow
  refine ⟨⟨_, hb.set_ 1 _, by simpa using hs, ?_, ?_, fun k hk => ?_, ?_, ?_⟩, h.srow.kept (hk 2 (by decide)) fun _ _ h => h, ⟨vs, p1.kept (hk 3 (by decide)) fun _ _ h => h, p2.kept (hk 4 (by decide)) fun _ _ h => h⟩, h.rf, fun k hk => h.lo k (by rw [hz] at hk; exact hk)⟩
  · rw [Array.getElem?_setIfInBounds_ne (by omega)]; exact h0
  · rw [Array.getElem?_setIfInBounds_self_of_lt (by omega)]
  · rw [Array.getElem?_setIfInBounds_ne (by omega)]; exact h2 k hk
  · rw [Array.getElem?_setIfInBounds_ne (by omega)]; exact h3
  · rw [Array.getElem?_setIfInBounds_ne (by omega)]; exact h4
theorem FindAt.putNum (h : FindAt w B0 r FB NB q cnt num v u stk parts) {t : Nat} (ht : t < 26) (x : Nat) : FindAt (w.setCell ⟨FB, 2 + t, none⟩ (.int .i64 x)) B0 r FB NB q cnt (fun k => if k = t then x else num k) v u stk parts := by
  obtain ⟨hk, hz⟩ := h.setF (2 + t) (.int .i64 x)
  obtain ⟨cs, hb, hs, h0, h1, h2, h3, h4⟩ := h.blk
  obtain ⟨vs, p1, p2⟩ := h.prow
  refine ⟨⟨_, hb.set_ (2 + t) _, by simpa using hs, ?_, ?_, fun k hk => ?_, ?_, ?_⟩, h.srow.kept (hk 2 (by decide)) fun _ _ h => h, ⟨vs, p1.kept (hk 3 (by decide)) fun _ _ h => h, p2.kept (hk 4 (by decide)) fun _ _ h => h⟩, h.rf, fun k hk => h.lo k (by rw [hz] at hk; exact hk)⟩
  · rw [Array.getElem?_setIfInBounds_ne (by omega)]; exact h0
  · rw [Array.getElem?_setIfInBounds_ne (by omega)]; exact h1
  · show _ = some (Value.int .i64 ((if k = t then x else num k : Nat) : Int))
    by_cases e : k = t
    · subst e
      rw [if_pos rfl, Array.getElem?_setIfInBounds_self_of_lt (by omega)]
    · rw [if_neg e, Array.getElem?_setIfInBounds_ne (by omega)]; exact h2 k hk
  · rw [Array.getElem?_setIfInBounds_ne (by omega)]; exact h3
  · rw [Array.getElem?_setIfInBounds_ne (by omega)]; exact h4
theorem FindAt.putCntI (h : FindAt w B0 r FB NB q cnt num v u stk parts) (c : Nat) {x : Int} (hx : x = c) : FindAt (w.setCell ⟨FB, 1, none⟩ (.int .i64 x)) B0 r FB NB q c num v u stk parts := by subst hx; exact h.putCnt c
theorem FindAt.putNumI (h : FindAt w B0 r FB NB q cnt num v u stk parts) {t : Nat} (ht : t < 26) (c : Nat) {x : Int} (hx : x = c) : FindAt (w.setCell ⟨FB, 2 + t, none⟩ (.int .i64 x)) B0 r FB NB q cnt (fun k => if k = t then c else num k) v u stk parts := by subst hx; exact h.putNum ht c
/-- The stack is another one, in blocks of its own. -/
theorem FindAt.putStk (h : FindAt w B0 r FB NB q cnt num v u stk parts) {w1 : World} (T : Turns (fun k => r k = 2) w w1) {v' : Value} {stk' : List Nat} (hq : Row w1 73 1 (fun k => (if k < w.heap.size then r k else 2) = 2) v' stk'.length (stk'.map (nptr NB))) :
    FindAt (w1.setCell ⟨FB, 28, none⟩ v') B0 (fun k => if k < w.heap.size then r k else 2) FB NB q cnt num v' u stk' parts := by
  have hlt := h.lt
  have hlow := h.low
  have hrf := h.rf
  have hsz := T.size
  have hT2 : Turns (fun k => k = FB) w1 (w1.setCell ⟨FB, 28, none⟩ v') := Turns.setCell (O := fun k => k = FB) (p := ⟨FB, 28, none⟩) rfl v'
  have hk : ∀ m, m ≠ 1 → m ≠ 2 → Keeps (fun k => r k = m) w (w1.setCell ⟨FB, 28, none⟩ v') := fun m h1 h2 => (T.keeps fun k hk ho => by omega).trans (hT2.keeps fun k hk e => by subst e; omega)
  have ho : ∀ m, ∀ k, k < w.heap.size → r k = m → (if k < w.heap.size then r k else 2) = m := fun m k hk e => by rw [if_pos hk]; exact e
  obtain ⟨cs, hb, hs, h0, h1, h2, h3, h4⟩ := h.blk
  obtain ⟨vs, p1, p2⟩ := h.prow
  have hb1 : Blk w1 FB 124 cs := (T.block _ hb.lt (by omega)).trans hb
  refine ⟨⟨_, hb1.set_ 28 _, by simpa using hs, ?_, ?_, fun k hk => ?_, ?_, ?_⟩, hq.kept (hT2.keeps fun k hk e => ?_) fun _ _ h => h, ⟨vs, p1.kept (hk 3 (by decide) (by decide)) (ho 3), p2.kept (hk 4 (by decide) (by decide)) (ho 4)⟩, ?_, fun k hk hr => ?_⟩
  · rw [Array.getElem?_setIfInBounds_ne (by omega)]; exact h0
  · rw [Array.getElem?_setIfInBounds_ne (by omega)]; exact h1
  · rw [Array.getElem?_setIfInBounds_ne (by omega)]; exact h2 k hk
  · rw [Array.getElem?_setIfInBounds_self_of_lt (by omega)]
  · rw [Array.getElem?_setIfInBounds_ne (by omega)]; exact h4
  · rw [e, if_pos hlt] at hk; omega
  · show (if FB < w.heap.size then r FB else 2) = 1
    rw [if_pos hlt]; exact hrf
  · by_cases hl : k < w.heap.size
    · rw [if_pos hl] at hr; exact h.lo k hl hr
    · omega
/-- The row of parts is another one, in blocks of its own. -/
theorem FindAt.putParts (h : FindAt w B0 r FB NB q cnt num v u stk parts) {w1 : World} (T : Turns (fun k => r k = 3) w w1) {u' : Value} {parts' : List (List Nat)} {vs' : List Value} (hq : Row w1 54 1 (fun k => (if k < w.heap.size then r k else 3) = 3) u' parts'.length vs') (hp : PartsIn w (fun k => r k = 4) NB parts' vs') :
    FindAt (w1.setCell ⟨FB, 29, none⟩ u') B0 (fun k => if k < w.heap.size then r k else 3) FB NB q cnt num v u' stk parts' := by
  have hlt := h.lt
  have hlow := h.low
  have hrf := h.rf
  have hsz := T.size
  have hT2 : Turns (fun k => k = FB) w1 (w1.setCell ⟨FB, 29, none⟩ u') := Turns.setCell (O := fun k => k = FB) (p := ⟨FB, 29, none⟩) rfl u'
  have hk : ∀ m, m ≠ 1 → m ≠ 3 → Keeps (fun k => r k = m) w (w1.setCell ⟨FB, 29, none⟩ u') := fun m h1 h2 => (T.keeps fun k hk ho => by omega).trans (hT2.keeps fun k hk e => by subst e; omega)
  have ho : ∀ m, ∀ k, k < w.heap.size → r k = m → (if k < w.heap.size then r k else 3) = m := fun m k hk e => by rw [if_pos hk]; exact e
  obtain ⟨cs, hb, hs, h0, h1, h2, h3, h4⟩ := h.blk
  have hb1 : Blk w1 FB 124 cs := (T.block _ hb.lt (by omega)).trans hb
  refine ⟨⟨_, hb1.set_ 29 _, by simpa using hs, ?_, ?_, fun k hk => ?_, ?_, ?_⟩, h.srow.kept (hk 2 (by decide) (by decide)) (ho 2), ⟨vs', hq.kept (hT2.keeps fun k hk e => ?_) fun _ _ h => h, hp.kept (hk 4 (by decide) (by decide)) (ho 4)⟩, ?_, fun k hk hr => ?_⟩
  · rw [Array.getElem?_setIfInBounds_ne (by omega)]; exact h0
  · rw [Array.getElem?_setIfInBounds_ne (by omega)]; exact h1
  · rw [Array.getElem?_setIfInBounds_ne (by omega)]; exact h2 k hk
  · rw [Array.getElem?_setIfInBounds_ne (by omega)]; exact h3
  · rw [Array.getElem?_setIfInBounds_self_of_lt (by omega)]
  · rw [e, if_pos hlt] at hk; omega
  · show (if FB < w.heap.size then r FB else 3) = 1
    rw [if_pos hlt]; exact hrf
  · by_cases hl : k < w.heap.size
    · rw [if_pos hl] at hr; exact h.lo k hl hr
    · omega
end

/-- What a call of the finder's keeps: all that it doesn't own, and whose each block is. -/
structure Kept (B0 : Nat) (r r' : Nat → Nat) (w w' : World) : Prop where
  ext : ∀ k, k < w.heap.size → r' k = r k
  keep : Keeps (fun k => r k = 0) w w'
  below : Below B0 w w'
theorem Kept.refl (B0 : Nat) (r : Nat → Nat) (w : World) : Kept B0 r r w w := ⟨fun _ _ => rfl, Keeps.refl _ _, Below.refl _ _⟩
theorem Kept.trans {B0 : Nat} {r1 r2 r3 : Nat → Nat} {w1 w2 w3 : World} (h : Kept B0 r1 r2 w1 w2) (k : Kept B0 r2 r3 w2 w3) : Kept B0 r1 r3 w1 w3 :=
  ⟨fun i hi => (k.ext i (Nat.lt_of_lt_of_le hi h.keep.1)).trans (h.ext i hi), ⟨Nat.le_trans h.keep.1 k.keep.1, fun i hi ho => (k.keep.2 i (Nat.lt_of_lt_of_le hi h.keep.1) ((h.ext i hi).trans ho)).trans (h.keep.2 i hi ho)⟩, h.below.trans k.below⟩
theorem Kept.of_below {B0 : Nat} {w w' : World} (r : Nat → Nat) (d : Nat) (hb : Below w.heap.size w w') (h : B0 ≤ w.heap.size) : Kept B0 r (fun k => if k < w.heap.size then r k else d) w w' :=
  ⟨fun _ hk => if_pos hk, ⟨hb.size, fun k hk _ => hb.block k hk⟩, hb.mono h⟩
theorem Kept.of_turns {B0 : Nat} {w w' : World} {r : Nat → Nat} (d : Nat) {O : Nat → Prop} (T : Turns O w w') (h : B0 ≤ w.heap.size) (hO : ∀ k, O k → r k ≠ 0 ∧ B0 ≤ k) : Kept B0 r (fun k => if k < w.heap.size then r k else d) w w' :=
  ⟨fun _ hk => if_pos hk, T.keeps fun k hk ho => (hO k ho).1 hk, T.below h fun k ho => (hO k ho).2⟩
theorem Kept.set {B0 FB : Nat} {r : Nat → Nat} (w : World) (j : Nat) (x : Value) (h1 : r FB ≠ 0) (h2 : B0 ≤ FB) : Kept B0 r r w (w.setCell ⟨FB, j, none⟩ x) := by
  have T : Turns (fun k => k = FB) w (w.setCell ⟨FB, j, none⟩ x) := Turns.setCell (O := fun k => k = FB) (p := ⟨FB, j, none⟩) rfl x
  exact ⟨fun _ _ => rfl, T.keeps fun k hk ho => by subst ho; exact h1 hk, (Below.refl _ _).setCell (p := ⟨FB, j, none⟩) h2 x⟩
theorem Kept.drew {B0 : Nat} {r r' : Nat → Nat} {w w' : World} (h : Kept B0 r r' w w') : Kept B0 r r' w w'.drew := ⟨h.ext, h.keep, h.below.drew⟩
theorem Kept.wider {B0 : Nat} {r r' : Nat → Nat} {w w' : World} (h : Kept B0 r r' w w') {b : Nat} (hb : b < w.heap.size) (hr : r b = 0) : w'.heap[b]? = w.heap[b]? ∧ r' b = 0 := ⟨h.keep.2 b hb hr, (h.ext b hb).trans hr⟩
end Go.Proofs.YtdpjdhllaokbfaaGreat
