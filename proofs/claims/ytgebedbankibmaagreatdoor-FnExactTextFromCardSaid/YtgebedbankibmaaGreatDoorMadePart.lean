/-
  What is told of a block's part.
-/
import Derived.Test.YtgebedbankibmaaGreatDoorMadeParts
import Derived.Laws.ResultCell
import Derived.Laws.Rows
namespace Go.Proofs.YtgebedbankibmaaGreatDoor
open Go.RowKit Go.Sort Go.Shelf Go.Maps Go.WideMaps
attribute [local go_sem] Oper.semAt_some

theorem PMap.look_none {w : World} {PB n : Nat} {P : MParts} (h : PMap w PB n P) (s : ByteArray) (hs : s.size ≤ maxLen) (hx : P s.data.toList = none) :
    (Instr.lookup 65 (.map (some PB)) (.string s) true).run Tryz.prog w = .ok (.tuple #[.agg #[.string ⟨#[]⟩, .string ⟨#[]⟩], .bool false]) w := by
  obtain ⟨D, h1, h2, h3⟩ := h
  obtain ⟨v, ps, r, hv⟩ := World.ownsMap.look_ok h1 strLaw Tryz.underlying65 (part_zero w) (partElem_mk _ _) (keyOf_string_mk Tryz.underlying9 hs)
  have hno := (h3 s.data.toList).2 hx
  rw [atKey_of_not_has hno] at hv
  obtain ⟨t, f, rfl, hc⟩ := partElem_inv hv
  simp only [Prod.mk.injEq, DataW.agg.injEq, List.cons.injEq, DataW.lit.injEq, Lit.string.injEq, and_true] at hc
  have e1 : t = ⟨#[]⟩ := by apply ba_ext; rw [← hc.1.1]
  have e2 : f = ⟨#[]⟩ := by apply ba_ext; rw [← hc.1.2]
  rw [r, hno, e1, e2]

theorem results_cell2 {P : Program} {fn : Func} {p u : Tmp} {ty : TypeId} (h : fn.results = #[.cell p ty, .tmp u]) (tmps : Array Value) (w : World) (g : Nat) (t : TypeId) (cs : Array Value) (d : TypeDesc)
    (hp : tmps.getD p undef = .pointer (some ⟨g, 0, none⟩)) (hg : Blk w g t cs)
    (hu : P.underlying ty = some d) (hd : (match d with | .struct _ | .array _ _ => true | _ => false) = true) (hi : (P.info? ty).map (·.size) = some cs.size) :
    (results fn tmps).run P w = .ok (.tuple #[.agg cs, tmps.getD u undef]) w := by
  rw [results_cell_tmp h, hp]
  simp only [asAddr, Sem.run_pure, Result.andThen]
  rw [run_loadVar_row w g t ty cs (0, 0) d hg hu hd hi]

/-- What partNamed answers: a block's text and its frames. -/
noncomputable def partOf (g : List Bl) (s : ByteArray) : Option MPart := if madeB g = true then (liveOf g s).map fun n => (madeP g n, madeA g n) else none
theorem partOf_made {g : List Bl} (hb : madeB g = true) (s : ByteArray) : madeQ g s.data.toList = partOf g s := by
  have ht := madeB_tame hb
  have hv := (tameB_iff.1 ht).1
  unfold partOf
  rw [if_pos hb]
  cases hl : liveOf g s with
  | some n =>
    obtain ⟨_, hn, hs, hr⟩ := live_nm hl
    rw [hs, nmS_name hv hn]
    exact madeQ_yes ht hr
  | none =>
    refine madeQ_no ht fun n hn e => ?_
    have hnl := hn.lt hv
    have hs : s = g[n].1 := by
      have h1 := nmS_name hv hnl
      rw [nthName_at hnl] at h1
      rw [h1]
      apply ba_ext
      rw [e]; rfl
    rw [hs, liveOf_some hv (posOf_name hv hnl) ((mem_reach hv).2 hn)] at hl
    cases hl
/-- What is told of a part. -/
noncomputable def framesV (g : List Bl) (s : ByteArray) : ByteArray := match partOf g s with | some x => tb x.2 | none => ⟨#[]⟩
noncomputable def fromV (g : List Bl) (s : ByteArray) : ByteArray := match partOf g s with | some x => tb x.1 | none => ⟨#[]⟩
noncomputable def partB (g : List Bl) (s : ByteArray) : Bool := (partOf g s).isSome

set_option maxRecDepth 100000 in
theorem partNamed_any (A : Option Addr) (cap : Nat) (g : List Bl) (s : ByteArray) (w : World) (hg : Gr w A g) (hn : g.length + tot g ≤ 1048576) (hs : s.size ≤ 1048576) :
    Calls Tryz.prog 48 #[.slice A g.length cap, .string s] w fun e w' => e = .returned (.tuple #[.agg #[.string (fromV g s), .string (framesV g s)], .bool (partB g s)]) ∧ Below w.heap.size w w' := by
  obtain ⟨W0, hW0⟩ : ∃ W0, W0 = w.alloc (.cells #[.string ⟨#[]⟩, .string ⟨#[]⟩] 86) := ⟨_, rfl⟩
  have hs0 : W0.heap.size = w.heap.size + 1 := by rw [hW0]; simp
  have hB0 : Below w.heap.size w W0 := by rw [hW0]; exact (Below.refl _ w).alloc (Nat.le_refl _) _
  have hk0 : Blk W0 w.heap.size 86 #[.string ⟨#[]⟩, .string ⟨#[]⟩] := by rw [hW0]; exact Blk.newAt _ _ rfl
  have HC := Lib.hid (madeOf_any A cap g W0 (hg.below hB0) hn)
  have HS0 := Lib.hid hs0
  have HB0 := Lib.hid hB0
  have HK0 := Lib.hid hk0
  clear hg hs0 hB0 hk0
  go_enter Tryz.func48, Tryz.ntmps48
  go_wp2_with fail
  rw [← hW0]
  refine HC.out.mono ?_
  rintro e w1 ⟨⟨hb, x, v, c, hxg, hxl, hx, rfl, hM⟩ | ⟨hb, rfl⟩, b1⟩
  · have c5 := hM.cells.2.2.2
    have hq := partOf_made hb s
    have hsl : s.size ≤ maxLen := by unfold maxLen; omega
    have hk1 := HK0.out.below b1 HK0.out.lt
    have HB1 := Lib.hid (HB0.out.trans (b1.mono (by rw [HS0.out]; omega)))
    have q0 : ∀ o, (w1.alloc o).cell? ⟨w.heap.size, 0, none⟩ = some (.string ⟨#[]⟩) := fun o => (hk1.alloc o).cell 0
    have q1 : ∀ o, (w1.alloc o).frozen? ⟨w.heap.size, 0, none⟩ = false := fun o => (hk1.alloc o).frozen 0
    have q2 : ∀ o v, ((w1.alloc o).setCell ⟨w.heap.size, 0, none⟩ v).cell? ⟨w.heap.size, 1, none⟩ = some (.string ⟨#[]⟩) := fun o v => ((hk1.alloc o).set_ 0 v).cell 1
    have q3 : ∀ o v, ((w1.alloc o).setCell ⟨w.heap.size, 0, none⟩ v).frozen? ⟨w.heap.size, 1, none⟩ = false := fun o v => ((hk1.alloc o).set_ 0 v).frozen 1
    have q4 : ∀ o v u, (((w1.alloc o).setCell ⟨w.heap.size, 0, none⟩ v).setCell ⟨w.heap.size, 1, none⟩ u).cell? ⟨w.heap.size, 0, none⟩ = some v := fun o v u => (((hk1.alloc o).set_ 0 v).set_ 1 u).cell 0
    have q5 : ∀ o v u, (((w1.alloc o).setCell ⟨w.heap.size, 0, none⟩ v).setCell ⟨w.heap.size, 1, none⟩ u).cell? ⟨w.heap.size, 1, none⟩ = some u := fun o v u => (((hk1.alloc o).set_ 0 v).set_ 1 u).cell 1
    have HKE : Hid (∀ o v u, Blk (((w1.alloc o).setCell ⟨w.heap.size, 0, none⟩ v).setCell ⟨w.heap.size, 1, none⟩ u) w.heap.size 86 #[v, u]) := Lib.hid fun o v u => ((hk1.alloc o).set_ 0 v).set_ 1 u
    have HBE : Hid (∀ o v u, Below w.heap.size w (((w1.alloc o).setCell ⟨w.heap.size, 0, none⟩ v).setCell ⟨w.heap.size, 1, none⟩ u)) := Lib.hid fun o v u => ((HB1.out.alloc HB1.out.size _).setCell (Nat.le_refl _) _).setCell (Nat.le_refl _) _
    cases hp : partOf g s with
    | some y =>
      rw [hp] at hq
      have hlook := hM.map.look s hsl hq
      have HR : Hid (fromV g s = tb y.1 ∧ framesV g s = tb y.2 ∧ partB g s = true) := Lib.hid (by unfold fromV framesV partB; rw [hp]; exact ⟨rfl, rfl, rfl⟩)
      clear hM hb hq hp b1 hk1
      go_wp2_with fail
      refine bodyPost_ret (results_cell2 rfl _ _ _ _ _ _ rfl (HKE.out _ _ _) Tryz.underlying86 rfl (by kernel_rfl)) rfl ?_
      obtain ⟨r1, r2, r3⟩ := HR.out
      exact ⟨by rw [r1, r2, r3]; rfl, HBE.out _ _ _⟩
    | none =>
      rw [hp] at hq
      have hlook := hM.map.look_none s hsl hq
      have HR : Hid (fromV g s = ⟨#[]⟩ ∧ framesV g s = ⟨#[]⟩ ∧ partB g s = false) := Lib.hid (by unfold fromV framesV partB; rw [hp]; exact ⟨rfl, rfl, rfl⟩)
      clear hM hb hq hp b1 hk1
      go_wp2_with fail
      refine bodyPost_ret (results_cell2 rfl _ _ _ _ _ _ rfl (HKE.out _ _ _) Tryz.underlying86 rfl (by kernel_rfl)) rfl ?_
      obtain ⟨r1, r2, r3⟩ := HR.out
      exact ⟨by rw [r1, r2, r3]; rfl, HBE.out _ _ _⟩
  · have hp : partOf g s = none := by unfold partOf; rw [if_neg (by rw [hb]; simp)]
    have HR : Hid (fromV g s = ⟨#[]⟩ ∧ framesV g s = ⟨#[]⟩ ∧ partB g s = false) := Lib.hid (by unfold fromV framesV partB; rw [hp]; exact ⟨rfl, rfl, rfl⟩)
    have hk1 := HK0.out.below b1 HK0.out.lt
    have HB1 := Lib.hid (HB0.out.trans (b1.mono (by rw [HS0.out]; omega)))
    have q0 : w1.cell? ⟨w.heap.size, 0, none⟩ = some (.string ⟨#[]⟩) := hk1.cell 0
    have q1 := hk1.frozen 0
    have q2 : ∀ v, (w1.setCell ⟨w.heap.size, 0, none⟩ v).cell? ⟨w.heap.size, 1, none⟩ = some (.string ⟨#[]⟩) := fun v => (hk1.set_ 0 v).cell 1
    have q3 : ∀ v, (w1.setCell ⟨w.heap.size, 0, none⟩ v).frozen? ⟨w.heap.size, 1, none⟩ = false := fun v => (hk1.set_ 0 v).frozen 1
    have HKE : Hid (∀ v u, Blk ((w1.setCell ⟨w.heap.size, 0, none⟩ v).setCell ⟨w.heap.size, 1, none⟩ u) w.heap.size 86 #[v, u]) := Lib.hid fun v u => (hk1.set_ 0 v).set_ 1 u
    have HBE : Hid (∀ v u, Below w.heap.size w ((w1.setCell ⟨w.heap.size, 0, none⟩ v).setCell ⟨w.heap.size, 1, none⟩ u)) := Lib.hid fun v u => (HB1.out.setCell (Nat.le_refl _) _).setCell (Nat.le_refl _) _
    clear b1 hb hp hk1
    go_wp2_with fail
    refine bodyPost_ret (results_cell2 rfl _ _ _ _ _ _ rfl (HKE.out _ _) Tryz.underlying86 rfl (by kernel_rfl)) rfl ?_
    obtain ⟨r1, r2, r3⟩ := HR.out
    exact ⟨by rw [r1, r2, r3]; rfl, HBE.out _ _⟩

end Go.Proofs.YtgebedbankibmaaGreatDoor
