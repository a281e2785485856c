/-
  The program's ShortChoices: all that its iterator yields, collected; and the law's walk.
-/
import Derived.Test.YtelhogeaobofpaaShortIter
import Derived.Test.YtelhogeaobofpaaBuild
import Derived.Maps.OwnIn
namespace Go.Proofs.Ytelhogeaobofpaa
open Go.RowKit Go.Sort
attribute [local go_sem] Oper.semAt_some sv

theorem below_putS {w W : World} {B D : Nat} (h : Below B w W) (hD : B ≤ D) (o : Obj) : Below B w (W.putObj D o) :=
  ⟨h.os, h.tape, h.output, by simpa using h.size, fun k hk => (World.putObj_heap_other (by omega)).trans (h.block k hk)⟩

theorem own_slice {w : World} {base : Nat} {e : TypeId} {size : Nat} {v : Value} {n : Nat} {xs : List Value} (h : w.ownsRow base e size v n xs) : ∃ A c, v = .slice A n c := by
  rcases h.2 with ⟨rfl, rfl⟩ | ⟨g, cap, cur, rfl, _⟩
  · exact ⟨none, 0, rfl⟩
  · exact ⟨_, _, rfl⟩
theorem box_kept {Wt w1 : World} {b : Nat} {t : TypeId} {cs : Array Value} {row : Option Nat} (h1 : Blk Wt b t cs) (o : Obj) (hgrow : (Wt.alloc o).grownBy w1 row) (hne : some b ≠ row) : Blk w1 b t cs :=
  (hgrow.block b (by have := h1.lt; simp; omega) hne).trans (h1.alloc o)

/-- An iterator that may be left goes on to the end where no round leaves it. -/
theorem SeqOwn.all {α : Type} {F : Fence} {n : Nat} {P : Program} {g : Nat} {lb : Array Value} {encs : α → Array Value} {R : Nat → Prop} {Nx : List α → α → Prop} {S Sp : List α → Prop} {w : World}
    (h : SeqOwn F n P g lb encs R (fun _ => True) Nx S Sp w) : SeqAll F n P g lb encs R Nx S w := by
  intro l J W hW hJ hY h0
  refine (h l J (fun _ _ => False) W hW hJ (fun _ _ _ _ => trivial) (fun O pre x A hA hx => ?_) h0).mono ?_
  · obtain ⟨fn, tmps, assign, body, hy, hR⟩ := hY O pre x A hA hx
    exact ⟨fn, tmps, assign, body, hy, hR.mono fun e B hB => .inl hB⟩
  · rintro e W' ⟨hv, h | ⟨_, _, h⟩⟩
    · exact ⟨hv, h⟩
    · exact h.elim

set_option maxRecDepth 100000 in
set_option maxHeartbeats 3200000 in
theorem appendSeq_any (n NB : Nat) (w : World) (hn : n ≤ 6) (hE : w.cell? ⟨NB, 0, none⟩ = some (.int .i64 n)) (hEl : NB < w.heap.size) :
    Calls Try.prog 74 #[.slice none 0 0, .func (.func 75) #[] #[.pointer (some ⟨NB, 0, none⟩)]] w fun e w' => ∃ v, e = .returned v ∧ OwnStr w' w.heap.size v ((shortL n).map tb) ∧ Below w.heap.size w w' := by
  obtain ⟨i0, hi0, hz0, hz1, hz2⟩ := info_parts info_str
  obtain ⟨W1, hW1⟩ : ∃ W1, W1 = w.alloc (.cells #[.slice none 0 0] 34) := ⟨_, rfl⟩
  have hs1 : W1.heap.size = w.heap.size + 1 := by rw [hW1]; simp
  have hB1 : Below w.heap.size w W1 := by rw [hW1]; exact (Below.refl _ w).alloc (Nat.le_refl _) _
  have hK1 : Blk W1 w.heap.size 34 #[.slice none 0 0] := by rw [hW1]; exact Blk.new w _ _
  have hE1 := (hB1.cell (p := ⟨NB, 0, none⟩) hEl).trans hE
  have HSEQ := Lib.hid ((shortChoices1_own 3 n NB W1 (by decide) hn hE1 (by omega)).all)
  have HW1 := Lib.hid hW1
  have HBW1 := Lib.hid hB1
  have HK1 := Lib.hid hK1
  have hL := shortL_len hn
  generalize shortL n = F at HSEQ hL ⊢
  have HL := Lib.hid hL
  clear hE hE1 hW1 hB1 hK1 hL
  refine (callsIn_wide (n := 4)).1 ?_
  refine callsIn_of_wp_marks Try.func74 rfl trivial ?_ rfl
  simp only [Try.ntmps74, List.size_toArray, List.length_cons, List.length_nil, Nat.reduceAdd, Nat.reduceSub, Array.replicate_succ, Array.replicate_zero, List.push_toArray, List.append_toArray, List.nil_append, List.cons_append]
  refine wpIn_mono (Q := calm _) ?_ calm_le
  gi_wp2_with fail
  rw [← HW1.out]
  refine wpIn_rangeFunc_all rfl (by decide) (gf := 75) (lb := #[.pointer (some ⟨NB, 0, none⟩)]) rfl trivial (enters_of Try.func75 (by kernel_rfl) rfl) HSEQ.out (Below.refl _ _) (fun _ => rfl) (fun b hb => by omega)
    (fun O pre W => ∃ v, Hid (Blk W w.heap.size 34 #[v]) ∧ Hid (OwnStr W w.heap.size v (pre.map tb)) ∧ Hid (∀ g, v.ownBlock = some g → g ≠ NB ∧ ¬ O g ∧ g ≠ w.heap.size) ∧ Hid (Below w.heap.size w W))
    ?_ ?_ ?a1 ?assign ?body ?done
  case assign =>
    intro l3 x3 W7 K7 hK7
    gi_wp2
    exact hK7
  · rintro Ot pre X Y hle hO ⟨v, h1, h2, h3, h4⟩ hT
    have hlt := h1.out.lt
    refine ⟨v, (hT.block _ hlt fun e => by have := hO _ e; omega).trans h1.out, own_kept h2.out fun g hg => hT.block g (World.ownsRow.lt h2.out g hg).2 (h3.out g hg).2.1, fun g hg => ?_, h4.out.trans (hT.below h4.out.size fun b hb => by have := hO b hb; omega)⟩
    obtain ⟨a1, a2, a3⟩ := h3.out g hg
    refine ⟨a1, fun h => ?_, a3⟩
    rcases h with h | h
    · exact a2 h
    · have := (World.ownsRow.lt h2.out g hg).2; omega
  · exact ⟨.slice none 0 0, HK1.out, World.ownsRow_nil _ _ _ _, show ∀ g, (Value.slice none 0 0).ownBlock = some g → _ from fun g h => (by cases h), HBW1.out⟩
  case body =>
    rintro l3 Oin pre x Wt hle hO ⟨v, h1, h2, h3, h4⟩ hnx
    obtain ⟨A, cap, rfl, _⟩ := own_strs h2.out
    have hpl : (pre.map tb).length + 1 ≤ 127 := by
      have := hnx.length_le
      have hL := HL.out
      rw [List.length_append, List.length_singleton] at this
      rw [List.length_map]; omega
    have hz : pre.length = (pre.map tb).length := (List.length_map _).symm
    have H1 := Lib.hid h1.out
    have H2 : Hid (Wt.ownsRow w.heap.size 9 1 (.slice A (pre.map tb).length cap) (pre.map tb).length ((pre.map tb).map Value.string)) := h2.out
    have H3 := Lib.hid h3.out
    have H4 := Lib.hid h4.out
    have hszw := H4.out.size
    have hlt1 := H1.out.lt
    have c0 := H1.out.cell 0
    have f0 : ((Wt.alloc (.cells #[.string (tb x)] 9)).frozen? ⟨w.heap.size, 0, none⟩) = false := (H1.out.alloc _).frozen 0
    have HNEW := Lib.hid (World.news_of_block (w := Wt.alloc (.cells #[.string (tb x)] 9)) (cs := #[.string (tb x)]) (t := 9) (fr := (0, 0)) (heap_alloc_new Wt _))
    have HO := Lib.hid hO
    have HMAP := Lib.hid (show (pre ++ [x]).map tb = pre.map tb ++ [tb x] by simp)
    obtain ⟨ps, hps⟩ : ∃ ps, ps = pre.map tb := ⟨_, rfl⟩
    rw [← hps] at H2 hpl HMAP
    have HPS := Lib.hid hps
    rw [← hps] at c0 H1 H3
    clear hnx h1 h2 h3 h4 hO hz hps
    have hSB : (Value.slice A ps.length cap).ownBlock ≠ some w.heap.size := fun e => (H3.out _ e).2.2 rfl
    gi_wp2_with (gi_at_builtin; refine wpListIn_append_own_at _ rfl _ _ 34 rfl w.heap.size 9 i0 _ 1 16 Try.underlying34 hi0 hz0 hz1 hz2 rfl (by decide) _ _ _ rfl (H2.out.alloc _) ⟨Wt.heap.size, 0, none⟩ 1 1 [.string (tb x)] rfl rfl HNEW.out (by simp [Value.oneCell']) (by unfold maxLen; omega) (by omega) (by simp; omega) ?_; intro v' w1 hown' hgrow hnil hat; obtain ⟨A', cap', rfl⟩ := own_slice hown'; have hblk1 := box_kept H1.out _ hgrow (fun e => hSB e.symm); have c1 := hblk1.cell 0; have f1 := hblk1.frozen 0; have HB1 := Lib.hid hblk1; clear hblk1 c0 f0)
    have HOWN := Lib.hid hown'
    have hsz1 := hgrow.size
    have hszA : (Wt.alloc (.cells #[.string (tb x)] 9)).heap.size = Wt.heap.size + 1 := by simp
    have HN3 : Hid (∀ g, (Value.slice A' (ps.length + 1) cap').ownBlock = some g → g ≠ NB ∧ ¬ Oin g ∧ g ≠ w.heap.size) := by
      intro g hg
      rcases hat with e | e
      · rw [e] at hg; exact H3.out g hg
      · rw [e] at hg
        injection hg with hg
        rw [hszA] at hg
        refine ⟨by omega, fun h => ?_, by omega⟩
        have := (HO.out g h).2; omega
    have HBW : Hid (Below w.heap.size w w1) := (H4.out.alloc hszw (.cells #[.string (tb x)] 9)).grown hgrow (by simp; omega) (fun j hj => (World.ownsRow.lt H2.out j hj).1)
    have HKP : Hid (Keeps (fun k => k = NB ∨ Oin k) Wt w1) := by
      refine ⟨by omega, fun k hk h => ?_⟩
      have hne : some k ≠ (Value.slice A ps.length cap).ownBlock := fun e => by
        have h3 := H3.out k e.symm
        rcases h with h | h
        · exact h3.1 h
        · exact h3.2.1 h
      exact (hgrow.block k (by omega) hne).trans (Below.heap_alloc _ _ _ (by omega))
    clear hown' hgrow hat hnil
    have hNE : ∀ k, (k = NB ∨ Oin k) → k ≠ w.heap.size := fun k h => by
      rcases h with h | h
      · omega
      · have := (HO.out k h).1; omega
    have hk2 := (Turns.setCell (O := fun k => k = w.heap.size) (A := w1) (p := ⟨w.heap.size, 0, none⟩) rfl (.slice A' (ps.length + 1) cap')).keeps (O' := fun k => k = NB ∨ Oin k) (fun k h => hNE k h)
    refine ⟨HKP.out.trans hk2, .slice A' (ps.length + 1) cap', HB1.out.set_ 0 _, ?_, HN3.out, HBW.out.setCell (p := ⟨w.heap.size, 0, none⟩) (Nat.le_refl _) _⟩
    rw [HMAP.out]
    have h9 : w1.ownsRow w.heap.size 9 1 (.slice A' (ps.length + 1) cap') (ps ++ [tb x]).length ((ps ++ [tb x]).map Value.string) := by
      rw [List.map_append, List.length_append]
      exact HOWN.out
    exact own_set h9 (fun e => (HN3.out _ e).2.2 rfl) 0 _
  case done =>
    rintro D Oin xs3 Wt hD hO hS ⟨v, h1, h2, h3, h4⟩ hOD hK
    have c0 := h1.out.cell 0
    have HK := Lib.hid hK
    have H2 := Lib.hid h2.out
    have H4 := Lib.hid h4.out
    have hDl := hO D hOD
    have HS := Lib.hid (show xs3 = F from hS)
    have HND : Hid (v.ownBlock ≠ some D) := fun e => (h3.out D e).2.1 hOD
    clear hD h1 h2 h3 h4 hK hS
    gi_wp2_with fail
    refine ⟨by simp, .inl ⟨_, _, rfl, run_takeDeferred HK.out, ?_⟩⟩
    refine ⟨_, results_tmp rfl _ _ _, ⟨v, rfl, ?_, below_putS H4.out (by omega) _⟩⟩
    rw [← HS.out]
    exact own_kept H2.out fun g hg => World.putObj_heap_other fun e => HND.out (by rw [hg, e])
end Go.Proofs.Ytelhogeaobofpaa
