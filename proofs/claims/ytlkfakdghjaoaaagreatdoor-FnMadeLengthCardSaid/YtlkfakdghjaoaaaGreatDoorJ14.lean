import Derived.Test.YtlkfakdghjaoaaaGreatDoorJ13
import Derived.Laws.ResultCell
import Derived.Laws.Rows
namespace Go.Proofs.YtlkfakdghjaoaaaGreatDoor
open Go.RowKit Go.Sort
def FitAt (g : List Bl) (n : Nat) (fr : Fr) : Prop := ∀ e ∈ fr, (e.2 = true → e.1 ∈ headL g) ∧ (e.2 = false → e.1 ∈ meetsL g ∧ ¬ Dm g e.1 n)
theorem fit_start (g : List Bl) (n : Nat) : FitAt g n [] := fun _ h => by cases h
theorem FitAt.into {g : List Bl} {n : Nat} {fr : Fr} (h : FitAt g n fr) : FitAt g n (intoF g n fr) := by
 unfold intoF
 split
 ·rename_i hh
  intro e he
  rcases List.mem_cons.1 he with he | he
  ·subst he; exact ⟨fun _ => hh, fun e => by cases e⟩
  ·exact h e he
 ·exact h
theorem not_dom_par {g : List Bl} {n y : Nat} (hy : Rch g [] y) (hp : Par g n y) : ¬ Dm g y n := fun hd => hp.1 (hd.antisymm (par_dom hp) hy).symm
theorem FitAt.wrap {g : List Bl} {n y : Nat} {fr : Fr} (h : FitAt g n fr) (hm : y ∈ meetsL g) (hy : Rch g [] y) (hp : Par g n y) : FitAt g n ((y, false) :: fr) := by
 intro e he
 rcases List.mem_cons.1 he with he | he
 ·subst he; exact ⟨fun e => by (cases e), fun _ => ⟨hm, not_dom_par hy hp⟩⟩
 ·exact h e he
theorem FitAt.child {g : List Bl} {n y : Nat} {fr : Fr} (h : FitAt g n fr) (hp : Par g n y) (hno : y ∈ meetsL g → (y, false) ∉ fr) : FitAt g y fr := by
 intro e he
 refine ⟨(h e he).1, fun hb => ?_⟩
 obtain ⟨h1, h2⟩ := (h e he).2 hb
 refine ⟨h1, fun hd => ?_⟩
 rcases (hp.2.2 e.1).1 hd with q | q
 ·obtain ⟨a, b⟩ := e
  have q : a = y := q
  have hb : b = false := hb
  subst q; subst hb
  exact hno h1 he
 ·exact h2 q
def Around (g : List Bl) (p : Nat × Fr) : Prop := Rch g [] p.1 ∧ InvOut g p.1 p.2 ∧ OkOut g p.1 p.2 ∧ FitAt g p.1 p.2
theorem within_around {g : List Bl} (hv : validB g = true) (hT : Tame g) {V : Nat → Fr → List (Nat × Fr)} (IH : ∀ c fr, Around g (c, fr) → ∀ p ∈ V c fr, Around g p) {n : Nat} (hn : Rch g [] n) :
  ∀ (bs : List Nat) (fr : Fr), (∀ y ∈ bs, y ∈ belowL g n) → bs.Nodup → bs.Pairwise (fun a b => placeN g b < placeN g a) → InvIn g n bs fr → OkIn g n bs fr → FitAt g n fr → ∀ p ∈ withinV g V n bs fr, Around g p
 | [], fr, _, _, _, hi, ho, hf => fun p hp => by
  have hp : p ∈ bareV g V n fr := hp
  unfold bareV at hp
  obtain ⟨t, ht, hp⟩ := List.mem_flatMap.1 hp
  unfold jumpV at hp
  split at hp
  ·rename_i hc
   obtain ⟨hr, hpar⟩ := bareK_par hv hT hn (mem_bareK.2 ⟨ht, hc.1, hc.2⟩)
   exact IH t fr ⟨hr, hi.jump hv hr hpar, ho.child hv hr hpar, hf.child hpar fun h => absurd h hc.2⟩ p hp
  ·cases hp
 | y :: bs, fr, hb, hd, hs, hi, ho, hf => fun p hp => by
  obtain ⟨hr, hm, hpar⟩ := (mem_belowL hv).1 (hb y (List.mem_cons_self ..))
  have hd' := List.nodup_cons.1 hd
  rw [withinV, List.mem_append] at hp
  rcases hp with hp | hp
  ·exact within_around hv hT IH hn bs _ (fun z hz => hb z (List.mem_cons_of_mem _ hz)) hd'.2 (List.pairwise_cons.1 hs).2 hi.wrap (ho.wrap hv hr hpar hd'.1) (hf.wrap hm hr hpar) p hp
  ·refine IH y fr ⟨hr, hi.child hv hs hr hpar, ho.child hv hr hpar, hf.child hpar fun _ hmem => ?_⟩ p hp
   obtain ⟨q, h1, _, h3⟩ := (ho.2 _ hmem).2.2 rfl
   exact h3 (par_one h1 hpar) (List.mem_cons_self ..)
theorem wrA_around {g : List Bl} (hv : validB g = true) (hT : Tame g) : ∀ (m n : Nat) (fr : Fr), Around g (n, fr) → ∀ p ∈ wrA g m n fr, Around g p
 | 0, _, _, _ => fun _ h => by cases h
 | m + 1, n, fr, h => fun p hp => by
  rw [wrA, List.mem_cons] at hp
  rcases hp with rfl | hp
  ·exact h
  ·obtain ⟨hn, hi, ho, hf⟩ := h
   have hs := below_sorted hv n
   refine within_around hv hT (wrA_around hv hT m) hn _ _ (fun _ h => h) ?_ hs (hi.into hv) (ho.into (hn.lt hv)) hf.into p hp
   rw [List.nodup_iff_pairwise_ne]
   exact hs.imp fun hab e => by rw [e] at hab; omega
theorem madeA_around {g : List Bl} (ht : tameB g = true) {n : Nat} (hn : Rch g [] n) : ∃ fr, madeA g n = frS g fr ∧ InvOut g n fr ∧ OkOut g n fr ∧ FitAt g n fr := by
 obtain ⟨hv, hw⟩ := tameB_iff.1 ht
 have hT := tame_of hv hw
 have h0 : Rch g [] 0 := .start (by simp)
 have hk := keys_all hv hT (wayOrd g).length 0 h0 (by omega) n hn (.entry g n)
 have hp := wrP_keys g (wayOrd g).length 0 []
 have hnd : ((wrP g (wayOrd g).length 0 []).map (·.1)).Nodup := hp.nodup_iff.2 (keys_nodup hv hT _ _ h0)
 have hpa := wrA_perm g (wayOrd g).length 0 []
 have hka : ((trF g (wrA g (wayOrd g).length 0 [])).map (·.1)).Perm (keysW g (wayOrd g).length 0) := by
  refine (hpa.map (·.1)).trans ?_
  rw [List.map_map]
  exact hp
 obtain ⟨q, hq, he⟩ := List.mem_map.1 (hka.mem_iff.2 hk)
 unfold trF at hq
 obtain ⟨r, hr, rfl⟩ := List.mem_map.1 hq
 have he : r.1 = n := he
 subst he
 obtain ⟨_, h2, h3, h4⟩ := wrA_around hv hT _ _ _ ⟨h0, invOut_start g, okOut_start g, fit_start g 0⟩ r hr
 refine ⟨r.2, ?_, h2, h3, h4⟩
 unfold madeA
 refine updL_at _ _ ?_ hq
 exact hka.nodup_iff.2 (keys_nodup hv hT _ _ h0)
end Go.Proofs.YtlkfakdghjaoaaaGreatDoor

namespace Go.Proofs.YtlkfakdghjaoaaaGreatDoor
open Go.RowKit Go.Sort Go.Shelf Go.Maps Go.WideMaps
attribute [local go_sem] Oper.semAt_some
theorem PMap.look_none {w : World} {PB n : Nat} {P : MParts} (h : PMap w PB n P) (s : ByteArray) (hs : s.size ≤ maxLen) (hx : P s.data.toList = none) :
  (Instr.lookup 62 (.map (some PB)) (.string s) true).run Tryz.prog w = .ok (.tuple #[.agg #[.string ⟨#[]⟩, .string ⟨#[]⟩], .bool false]) w := by
 obtain ⟨D, h1, h2, h3⟩ := h
 obtain ⟨v, ps, r, hv⟩ := World.ownsMap.look_ok h1 strLaw Tryz.underlying62 (part_zero w) (partElem_mk _ _) (keyOf_string_mk Tryz.underlying9 hs)
 have hno := (h3 s.data.toList).2 hx
 rw [atKey_of_not_has hno] at hv
 obtain ⟨t, f, rfl, hc⟩ := partElem_inv hv
 simp only [Prod.mk.injEq, DataW.agg.injEq, List.cons.injEq, DataW.lit.injEq, Lit.string.injEq, and_true] at hc
 have e1 : t = ⟨#[]⟩ := by apply ba_ext; rw [← hc.1.1]
 have e2 : f = ⟨#[]⟩ := by apply ba_ext; rw [← hc.1.2]
 rw [r, hno, e1, e2]
theorem results_cell2 {P : Program} {fn : Func} {p u : Tmp} {ty : TypeId} (h : fn.results = #[.cell p ty, .tmp u]) (tmps : Array Value) (w : World) (g : Nat) (t : TypeId) (cs : Array Value) (d : TypeDesc)
  (hp : tmps.getD p undef = .pointer (some ⟨g, 0, none⟩)) (hg : Blk w g t cs)
  (hu : P.underlying ty = some d) (hd : (match d with | .struct _ | .array _ _ => true | _ => false) = true) (hi : (P.info? ty).map (·.size) = some cs.size) :
  (results fn tmps).run P w = .ok (.tuple #[.agg cs, tmps.getD u undef]) w := by
 rw [results_cell_tmp h, hp]
 simp only [asAddr, Sem.run_pure, Result.andThen]
 rw [run_loadVar_row w g t ty cs (0, 0) d hg hu hd hi]
noncomputable def partOf (g : List Bl) (s : ByteArray) : Option MPart := if madeB g = true then (liveOf g s).map fun n => (madeP g n, madeA g n) else none
theorem partOf_made {g : List Bl} (hb : madeB g = true) (s : ByteArray) : madeQ g s.data.toList = partOf g s := by
 have ht := madeB_tame hb
 have hv := (tameB_iff.1 ht).1
 unfold partOf
 rw [if_pos hb]
 cases hl : liveOf g s with
 | some n =>
  obtain ⟨_, hn, hs, hr⟩ := live_nm hl
  rw [hs, nmS_name hv hn]
  exact madeQ_yes ht hr
 | none =>
  refine madeQ_no ht fun n hn e => ?_
  have hnl := hn.lt hv
  have hs : s = g[n].1 := by
   have h1 := nmS_name hv hnl
   rw [nthName_at hnl] at h1
   rw [h1]
   apply ba_ext
   rw [e]; rfl
  rw [hs, liveOf_some hv (posOf_name hv hnl) ((mem_reach hv).2 hn)] at hl
  cases hl
noncomputable def framesV (g : List Bl) (s : ByteArray) : ByteArray := match partOf g s with | some x => tb x.2 | none => ⟨#[]⟩
noncomputable def fromV (g : List Bl) (s : ByteArray) : ByteArray := match partOf g s with | some x => tb x.1 | none => ⟨#[]⟩
noncomputable def partB (g : List Bl) (s : ByteArray) : Bool := (partOf g s).isSome
set_option maxRecDepth 100000 in
theorem partNamed_any (A : Option Addr) (cap : Nat) (g : List Bl) (s : ByteArray) (w : World) (hg : Gr w A g) (hn : g.length + tot g ≤ 1048576) (hs : s.size ≤ 1048576) :
  Calls Tryz.prog 74 #[.slice A g.length cap, .string s] w fun e w' => e = .returned (.tuple #[.agg #[.string (fromV g s), .string (framesV g s)], .bool (partB g s)]) ∧ Below w.heap.size w w' := by
 obtain ⟨W0, hW0⟩ : ∃ W0, W0 = w.alloc (.cells #[.string ⟨#[]⟩, .string ⟨#[]⟩] 103) := ⟨_, rfl⟩
 have hs0 : W0.heap.size = w.heap.size + 1 := by rw [hW0]; simp
 have hB0 : Below w.heap.size w W0 := by rw [hW0]; exact (Below.refl _ w).alloc (Nat.le_refl _) _
 have hk0 : Blk W0 w.heap.size 103 #[.string ⟨#[]⟩, .string ⟨#[]⟩] := by rw [hW0]; exact Blk.newAt _ _ rfl
 have HC := Lib.hid (madeOf_any A cap g W0 (hg.below hB0) hn)
 have HS0 := Lib.hid hs0
 have HB0 := Lib.hid hB0
 have HK0 := Lib.hid hk0
 clear hg hs0 hB0 hk0
 go_enter Tryz.func74, Tryz.ntmps74
 go_wp2_with fail
 rw [← hW0]
 refine HC.out.mono ?_
 rintro e w1 ⟨⟨hb, x, v, c, hxg, hxl, hx, rfl, hM⟩ | ⟨hb, rfl⟩, b1⟩
 ·have c5 := hM.cells.2.2.2
  have hq := partOf_made hb s
  have hsl : s.size ≤ maxLen := by unfold maxLen; omega
  have hk1 := HK0.out.below b1 HK0.out.lt
  have HB1 := Lib.hid (HB0.out.trans (b1.mono (by rw [HS0.out]; omega)))
  have q0 : ∀ o, (w1.alloc o).cell? ⟨w.heap.size, 0, none⟩ = some (.string ⟨#[]⟩) := fun o => (hk1.alloc o).cell 0
  have q1 : ∀ o, (w1.alloc o).frozen? ⟨w.heap.size, 0, none⟩ = false := fun o => (hk1.alloc o).frozen 0
  have q2 : ∀ o v, ((w1.alloc o).setCell ⟨w.heap.size, 0, none⟩ v).cell? ⟨w.heap.size, 1, none⟩ = some (.string ⟨#[]⟩) := fun o v => ((hk1.alloc o).set_ 0 v).cell 1
  have q3 : ∀ o v, ((w1.alloc o).setCell ⟨w.heap.size, 0, none⟩ v).frozen? ⟨w.heap.size, 1, none⟩ = false := fun o v => ((hk1.alloc o).set_ 0 v).frozen 1
  have q4 : ∀ o v u, (((w1.alloc o).setCell ⟨w.heap.size, 0, none⟩ v).setCell ⟨w.heap.size, 1, none⟩ u).cell? ⟨w.heap.size, 0, none⟩ = some v := fun o v u => (((hk1.alloc o).set_ 0 v).set_ 1 u).cell 0
  have q5 : ∀ o v u, (((w1.alloc o).setCell ⟨w.heap.size, 0, none⟩ v).setCell ⟨w.heap.size, 1, none⟩ u).cell? ⟨w.heap.size, 1, none⟩ = some u := fun o v u => (((hk1.alloc o).set_ 0 v).set_ 1 u).cell 1
  have HKE : Hid (∀ o v u, Blk (((w1.alloc o).setCell ⟨w.heap.size, 0, none⟩ v).setCell ⟨w.heap.size, 1, none⟩ u) w.heap.size 103 #[v, u]) := Lib.hid fun o v u => ((hk1.alloc o).set_ 0 v).set_ 1 u
  have HBE : Hid (∀ o v u, Below w.heap.size w (((w1.alloc o).setCell ⟨w.heap.size, 0, none⟩ v).setCell ⟨w.heap.size, 1, none⟩ u)) := Lib.hid fun o v u => ((HB1.out.alloc HB1.out.size _).setCell (Nat.le_refl _) _).setCell (Nat.le_refl _) _
  cases hp : partOf g s with
  | some y =>
   rw [hp] at hq
   have hlook := hM.map.look s hsl hq
   have HR : Hid (fromV g s = tb y.1 ∧ framesV g s = tb y.2 ∧ partB g s = true) := Lib.hid (by unfold fromV framesV partB; rw [hp]; exact ⟨rfl, rfl, rfl⟩)
   clear hM hb hq hp b1 hk1
   go_wp2_with fail
   refine bodyPost_ret (results_cell2 rfl _ _ _ _ _ _ rfl (HKE.out _ _ _) Tryz.underlying103 rfl (by kernel_rfl)) rfl ?_
   obtain ⟨r1, r2, r3⟩ := HR.out
   exact ⟨by rw [r1, r2, r3]; rfl, HBE.out _ _ _⟩
  | none =>
   rw [hp] at hq
   have hlook := hM.map.look_none s hsl hq
   have HR : Hid (fromV g s = ⟨#[]⟩ ∧ framesV g s = ⟨#[]⟩ ∧ partB g s = false) := Lib.hid (by unfold fromV framesV partB; rw [hp]; exact ⟨rfl, rfl, rfl⟩)
   clear hM hb hq hp b1 hk1
   go_wp2_with fail
   refine bodyPost_ret (results_cell2 rfl _ _ _ _ _ _ rfl (HKE.out _ _ _) Tryz.underlying103 rfl (by kernel_rfl)) rfl ?_
   obtain ⟨r1, r2, r3⟩ := HR.out
   exact ⟨by rw [r1, r2, r3]; rfl, HBE.out _ _ _⟩
 ·have hp : partOf g s = none := by unfold partOf; rw [if_neg (by rw [hb]; simp)]
  have HR : Hid (fromV g s = ⟨#[]⟩ ∧ framesV g s = ⟨#[]⟩ ∧ partB g s = false) := Lib.hid (by unfold fromV framesV partB; rw [hp]; exact ⟨rfl, rfl, rfl⟩)
  have hk1 := HK0.out.below b1 HK0.out.lt
  have HB1 := Lib.hid (HB0.out.trans (b1.mono (by rw [HS0.out]; omega)))
  have q0 : w1.cell? ⟨w.heap.size, 0, none⟩ = some (.string ⟨#[]⟩) := hk1.cell 0
  have q1 := hk1.frozen 0
  have q2 : ∀ v, (w1.setCell ⟨w.heap.size, 0, none⟩ v).cell? ⟨w.heap.size, 1, none⟩ = some (.string ⟨#[]⟩) := fun v => (hk1.set_ 0 v).cell 1
  have q3 : ∀ v, (w1.setCell ⟨w.heap.size, 0, none⟩ v).frozen? ⟨w.heap.size, 1, none⟩ = false := fun v => (hk1.set_ 0 v).frozen 1
  have HKE : Hid (∀ v u, Blk ((w1.setCell ⟨w.heap.size, 0, none⟩ v).setCell ⟨w.heap.size, 1, none⟩ u) w.heap.size 103 #[v, u]) := Lib.hid fun v u => (hk1.set_ 0 v).set_ 1 u
  have HBE : Hid (∀ v u, Below w.heap.size w ((w1.setCell ⟨w.heap.size, 0, none⟩ v).setCell ⟨w.heap.size, 1, none⟩ u)) := Lib.hid fun v u => (HB1.out.setCell (Nat.le_refl _) _).setCell (Nat.le_refl _) _
  clear b1 hb hp hk1
  go_wp2_with fail
  refine bodyPost_ret (results_cell2 rfl _ _ _ _ _ _ rfl (HKE.out _ _) Tryz.underlying103 rfl (by kernel_rfl)) rfl ?_
  obtain ⟨r1, r2, r3⟩ := HR.out
  exact ⟨by rw [r1, r2, r3]; rfl, HBE.out _ _⟩
end Go.Proofs.YtlkfakdghjaoaaaGreatDoor
