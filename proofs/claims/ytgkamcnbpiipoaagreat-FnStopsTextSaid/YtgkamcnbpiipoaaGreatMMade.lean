/-
  The model's reader: an item under way, to which a row of items is added.
-/
import Derived.Test.YtgkamcnbpiipoaaGreatMBody
import Derived.Deep.RegionLaw
namespace Go.Proofs.YtgkamcnbpiipoaaGreat
open Go.RowKit Go.Sort

/-- An item under way: its cells, what stands within it so far; what is not the reader's has stayed. -/
structure Made (w : World) (R : Nat) (tx : List UInt8) (q : Nat) (bad : Bool) (f : Nat) (k0 k1 k2 : Value) (OB : Nat) (bs : List (List It)) (vs : List Value) (vb : Value) (wx : World) : Prop where
  item : Blk wx OB 157 #[k0, k1, k2, vb]
  row : wx.ownsRow (w.heap.size + 1) 90 1 vb vs.length vs
  rows : bad = false → MAllRows wx (fun k => w.heap.size + 1 ≤ k ∧ some k ≠ vb.ownBlock ∧ k ≠ OB) bs vs
  res : Blk wx w.heap.size 157 #[.int .u8 0, .string ⟨#[]⟩, .int .i64 0, .slice none 0 0]
  only : Only R w wx
  rd : Mrd wx R tx q bad f

theorem Begun.made {w wx : World} {c : UInt8} {OB XB R : Nat} {tx : List UInt8} {p f : Nat} (h : Begun w c OB XB wx) (hm : Mrd w R tx p false f) (hR : R < w.heap.size) :
    Made w R tx p false f (.int .u8 c.toNat) (.string ⟨#[]⟩) (.int .i64 0) OB [] [] (.slice (some ⟨XB, 0, none⟩) 0 0) wx :=
  ⟨h.item, h.row, fun _ => MAllRows.nil _ _, h.res, only_below h.below, Blk.below hm h.below hR⟩
theorem Made.drew {w : World} {R : Nat} {tx : List UInt8} {q : Nat} {bad : Bool} {f : Nat} {k0 k1 k2 : Value} {OB : Nat} {bs : List (List It)} {vs : List Value} {vb : Value} {wx : World} (h : Made w R tx q bad f k0 k1 k2 OB bs vs vb wx) (n : Nat) :
    Made w R tx q bad f k0 k1 k2 OB bs vs vb (wx.drewN n) :=
  ⟨h.item, h.row, fun e => MAllRows.stay (w := wx) (w' := wx.drewN n) ⟨Nat.le_refl _, fun _ _ hp => ⟨hp, rfl⟩⟩ bs vs (h.rows e), h.res, h.only.trans (only_drewN R wx n), h.rd⟩
/-- The reader has gone on, or one of the item's own cells has turned. -/
theorem Made.reader {w : World} {R : Nat} {tx : List UInt8} {q : Nat} {f : Nat} {k0 k1 k2 : Value} {OB : Nat} {bs : List (List It)} {vs : List Value} {vb : Value} {wx : World} (h : Made w R tx q false f k0 k1 k2 OB bs vs vb wx) (hR : R < w.heap.size) (hO : OB ≠ R) (i : Nat) (u : Value) {q' : Nat} {bad' : Bool} (hm : Mrd (wx.setCell ⟨R, i, none⟩ u) R tx q' bad' f) :
    Made w R tx q' bad' f k0 k1 k2 OB bs vs vb (wx.setCell ⟨R, i, none⟩ u) :=
  ⟨blk_other h.item hO i u, own_only h.row (Only.set R wx i u) (by omega), fun _ => MAllRows.stay (w := wx) ⟨by simp, fun b hb hp => ⟨hp, Below.heap_setCell wx ⟨R, i, none⟩ u b (by show b ≠ R; have := hp.1; omega)⟩⟩ bs vs (h.rows rfl), blk_other h.res (by omega) i u, h.only.trans (Only.set R wx i u), hm⟩
theorem own_ne_item {w : World} {OB base : Nat} {cs : Array Value} {vb : Value} {n : Nat} {vs : List Value} (h : Blk w OB 157 cs) (k : w.ownsRow base 90 1 vb n vs) : some OB ≠ vb.ownBlock := by
  rcases k.2 with ⟨rfl, _⟩ | ⟨g, cap, cur, rfl, _, hg, _⟩
  · intro e; cases e
  · intro e
    have e2 : OB = g := Option.some.inj e
    subst e2
    have := h.symm.trans hg
    injection this with this
    injection this with _ t _
    revert t; decide
theorem Made.ne {w : World} {R : Nat} {tx : List UInt8} {q : Nat} {bad : Bool} {f : Nat} {k0 k1 k2 : Value} {OB : Nat} {bs : List (List It)} {vs : List Value} {vb : Value} {wx : World} (h : Made w R tx q bad f k0 k1 k2 OB bs vs vb wx) : some OB ≠ vb.ownBlock := own_ne_item h.item h.row
theorem Made.cell {w : World} {R : Nat} {tx : List UInt8} {q : Nat} {bad : Bool} {f : Nat} {k0 k1 k2 : Value} {OB : Nat} {bs : List (List It)} {vs : List Value} {vb : Value} {wx : World} (h : Made w R tx q bad f k0 k1 k2 OB bs vs vb wx)
    (i : Nat) (a : Value) {k0' k1' k2' : Value} (hi : (#[k0, k1, k2, vb] : Array Value).setIfInBounds i a = #[k0', k1', k2', vb]) (hO : OB ≠ R) (hl : w.heap.size < OB) : Made w R tx q bad f k0' k1' k2' OB bs vs vb (wx.setCell ⟨OB, i, none⟩ a) := by
  refine ⟨?_, ?_, fun e => ?_, blk_other h.res (by omega) i a, only_obj h.only (Nat.le_of_lt hl) i a, blk_other h.rd hO.symm i a⟩
  · have := h.item.set_ i a
    rw [hi] at this; exact this
  · refine ⟨h.row.1, ?_⟩
    have hne := h.ne
    rcases h.row.2 with hn | ⟨g, cap, cur, hv, hb, hg, rest⟩
    · exact .inl hn
    · refine .inr ⟨g, cap, cur, hv, hb, ?_, rest⟩
      rw [← hg]
      exact Below.heap_setCell wx ⟨OB, i, none⟩ a g (fun e => hne (by rw [hv]; show some OB = some g; rw [e]))
  · exact MAllRows.stay (w := wx) ⟨by simp, fun b hb hp => ⟨hp, Below.heap_setCell wx ⟨OB, i, none⟩ a b (fun e => hp.2.2 e)⟩⟩ bs vs (h.rows e)

/-- A row has been read, laid behind the others, and the item's cell turned. -/
theorem Made.stepG {w : World} {R : Nat} {tx : List UInt8} {q : Nat} {bad : Bool} {f : Nat} {k0 k1 k2 : Value} {OB : Nat} {bs : List (List It)} {vs : List Value} {vb : Value} {wx : World} (h : Made w R tx q bad f k0 k1 k2 OB bs vs vb wx) (hR : R < w.heap.size) (hO : OB ≠ R) (hl : w.heap.size < OB)
    {w2 w5 : World} {q' : Nat} {bad' : Bool} {l : List It} {u : Value} {o : Obj} (ho : Only R wx w2) (hr : Mrd w2 R tx q' bad' f) (hrow : bad' = false → MRowAt w2 (NewIn wx) l u)
    {gg cap : Nat} (hown : w5.ownsRow (w.heap.size + 1) 90 1 (.slice (some ⟨gg, 0, none⟩) (vs.length + 1) cap) (vs.length + 1) (vs ++ [u])) (hgrow : (w2.alloc o).grownBy w5 vb.ownBlock) (hat : vb.ownBlock = some gg ∨ gg = w2.heap.size + 1) (hbb : bad' = false → bad = false) :
    Made w R tx q' bad' f k0 k1 k2 OB (bs ++ [l]) (vs ++ [u]) (.slice (some ⟨gg, 0, none⟩) (vs.length + 1) cap) (w5.setCell ⟨OB, 3, none⟩ (.slice (some ⟨gg, 0, none⟩) (vs.length + 1) cap)) := by
  have hG : w2.grownBy w5 vb.ownBlock := (World.grownBy_alloc w2 _ _).trans hgrow
  have hlt := h.row.lt
  have hRr : some R ≠ vb.ownBlock := fun e => by have := (hlt R e.symm).1; omega
  have hQr : some w.heap.size ≠ vb.ownBlock := fun e => by have := (hlt _ e.symm).1; omega
  have hOx := h.item.lt
  have hsx := ho.size
  have hsw := h.only.size
  have hi2 : Blk w2 OB 157 #[k0, k1, k2, vb] := blk_only h.item ho hO
  have hr2 : Blk w2 w.heap.size 157 #[.int .u8 0, .string ⟨#[]⟩, .int .i64 0, .slice none 0 0] := blk_only h.res ho (by omega)
  have hi5 : Blk w5 OB 157 #[k0, k1, k2, vb] := (hG.block OB hi2.lt h.ne).trans hi2
  have hr5 : Blk w5 w.heap.size 157 #[.int .u8 0, .string ⟨#[]⟩, .int .i64 0, .slice none 0 0] := (hG.block _ hr2.lt hQr).trans hr2
  have hm5 : Mrd w5 R tx q' bad' f := (hG.block R hr.lt hRr).trans hr
  have ho5 : Only R w w5 := (h.only.trans ho).grown hG fun k e => by have := (hlt k e).1; omega
  have hgne : OB ≠ gg := by
    rcases hat with e | e
    · intro e2; exact h.ne (by rw [e, e2])
    · omega
  have hlen : (vs ++ [u]).length = vs.length + 1 := by simp
  refine ⟨hi5.set_ 3 _, ?_, fun e => ?_, blk_other hr5 (by omega) 3 _, only_obj ho5 (Nat.le_of_lt hl) 3 _, blk_other hm5 hO.symm 3 _⟩
  · rw [hlen]
    refine ⟨hown.1, ?_⟩
    rcases hown.2 with hn | ⟨g, c, cur, hv, hb, hg, rest⟩
    · exact .inl hn
    · refine .inr ⟨g, c, cur, hv, hb, ?_, rest⟩
      rw [← hg]
      refine Below.heap_setCell w5 ⟨OB, 3, none⟩ _ g (fun e => hgne ?_)
      injection hv with hv1 _ _
      injection hv1 with hv1
      injection hv1 with hv1 _ _
      have e' : g = OB := e
      rw [hv1, e']
  · have hst : Stay w2 (fun k => w.heap.size + 1 ≤ k ∧ some k ≠ vb.ownBlock ∧ k ≠ OB) (w5.setCell ⟨OB, 3, none⟩ (.slice (some ⟨gg, 0, none⟩) (vs.length + 1) cap)) (fun k => w.heap.size + 1 ≤ k ∧ some k ≠ (Value.slice (some ⟨gg, 0, none⟩) (vs.length + 1) cap).ownBlock ∧ k ≠ OB) := by
      refine ⟨by simpa using hG.size, fun b hb hp => ⟨⟨hp.1, fun e => ?_, hp.2.2⟩, (Below.heap_setCell w5 ⟨OB, 3, none⟩ _ b hp.2.2).trans (hG.block b hb hp.2.1)⟩⟩
      have e2 : b = gg := Option.some.inj e
      rcases hat with e3 | e3
      · exact hp.2.1 (by rw [e3, e2])
      · omega
    have h1 : MAllRows w2 (fun k => w.heap.size + 1 ≤ k ∧ some k ≠ vb.ownBlock ∧ k ≠ OB) bs vs := MAllRows.stay (w := wx) ⟨hsx, fun b hb hp => ⟨hp, ho.block b (by have := hp.1; omega) hb⟩⟩ bs vs (h.rows (hbb e))
    have h2 : MRowAt w2 (fun k => w.heap.size + 1 ≤ k ∧ some k ≠ vb.ownBlock ∧ k ≠ OB) l u := (hrow e).stay ⟨Nat.le_refl _, fun b _ hp => by
      have hp' : wx.heap.size ≤ b := hp
      exact ⟨⟨by omega, fun e => by have := (hlt b e.symm).2; omega, by omega⟩, rfl⟩⟩
    exact MAllRows.stay hst _ _ (h1.snoc h2)

theorem Made.step {w : World} {R : Nat} {tx : List UInt8} {q : Nat} {f : Nat} {k0 k1 k2 : Value} {OB : Nat} {bs : List (List It)} {vs : List Value} {vb : Value} {wx : World} (h : Made w R tx q false f k0 k1 k2 OB bs vs vb wx) (hR : R < w.heap.size) (hO : OB ≠ R) (hl : w.heap.size < OB)
    {w2 w5 : World} {q' : Nat} {bad' : Bool} {l : List It} {u : Value} {o : Obj} (ho : Only R wx w2) (hr : Mrd w2 R tx q' bad' f) (hrow : bad' = false → MRowAt w2 (NewIn wx) l u)
    {gg cap : Nat} (hown : w5.ownsRow (w.heap.size + 1) 90 1 (.slice (some ⟨gg, 0, none⟩) (vs.length + 1) cap) (vs.length + 1) (vs ++ [u])) (hgrow : (w2.alloc o).grownBy w5 vb.ownBlock) (hat : vb.ownBlock = some gg ∨ gg = w2.heap.size + 1) :
    Made w R tx q' bad' f k0 k1 k2 OB (bs ++ [l]) (vs ++ [u]) (.slice (some ⟨gg, 0, none⟩) (vs.length + 1) cap) (w5.setCell ⟨OB, 3, none⟩ (.slice (some ⟨gg, 0, none⟩) (vs.length + 1) cap)) :=
  h.stepG hR hO hl ho hr hrow hown hgrow hat fun _ => rfl

theorem Made.grown {w : World} {R : Nat} {tx : List UInt8} {q : Nat} {bad : Bool} {f : Nat} {k0 k1 k2 : Value} {OB : Nat} {bs : List (List It)} {vs : List Value} {vb : Value} {wx : World} (h : Made w R tx q bad f k0 k1 k2 OB bs vs vb wx) (hO : OB ≠ R)
    {w2 w5 : World} {o : Obj} (ho : Only R wx w2) (hgrow : (w2.alloc o).grownBy w5 vb.ownBlock) : Blk w5 OB 157 #[k0, k1, k2, vb] :=
  have hi2 : Blk w2 OB 157 #[k0, k1, k2, vb] := blk_only h.item ho hO
  (((World.grownBy_alloc w2 o (row := vb.ownBlock)).trans hgrow).block OB hi2.lt h.ne).trans hi2
/-- What stands within the item that is handed back. -/
theorem Made.bodies {w : World} {R : Nat} {tx : List UInt8} {q : Nat} {f : Nat} {k0 k1 k2 : Value} {OB : Nat} {bs : List (List It)} {vs : List Value} {vb : Value} {W : World} (h : Made w R tx q false f k0 k1 k2 OB bs vs vb W) {i : It} (hi : bodI i = bs) (a b c d : Value) :
    MBodAt (Res4 W w.heap.size a b c d) (NewIn w) i vb := by
  rw [mbod_iff, hi]
  have hs := res4_stay (W := W) (w := w) rfl a b c d
  refine ⟨vs, (own_reads h.row rfl).stay hs, ?_⟩
  exact MAllRows.stay (w := W) ⟨hs.size, fun k hk hp => hs.same k hk hp.1⟩ bs vs (h.rows rfl)
end Go.Proofs.YtgkamcnbpiipoaaGreat
