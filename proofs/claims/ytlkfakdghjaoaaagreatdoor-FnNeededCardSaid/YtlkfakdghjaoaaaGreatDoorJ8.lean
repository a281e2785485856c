import Derived.Test.YtlkfakdghjaoaaaGreatDoorMRead
import Derived.Test.YtlkfakdghjaoaaaGreatDoorJ5
set_option maxRecDepth 100000
set_option maxHeartbeats 3200000
namespace Go.Proofs.YtlkfakdghjaoaaaGreatDoor
open Go.RowKit Go.Sort
def aN (l : List It) : List It := (bI l 0).map (·.2)
def ev (bs : List (List It)) : List It := (da bs 0).map (·.2)
mutual
theorem E5 : ∀ (i : It) (k k' : Nat), (dr i k).map (·.2) = (dr i k').map (·.2)
 | .blk c, k, k' => by rw [dr, dr]; rfl
 | .ask c l r, k, k' => by rw [dr, dr]; simp [lO l k k', lO r k k']
 | .stop, k, k' => by rw [dr, dr]; rfl
 | .frame b l, k, k' => by rw [dr, dr]; simp [lO l (k + 1) (k' + 1)]
 | .leave n, k, k' => by rw [dr, dr]; rfl
 | .set n, k, k' => by rw [dr, dr]; rfl
 | .pick bs, k, k' => by rw [dr, dr]; simp [sj bs k k']
theorem lO : ∀ (l : List It) (k k' : Nat), (bI l k).map (·.2) = (bI l k').map (·.2)
 | [], k, k' => by rw [bI, bI]
 | i :: l, k, k' => by rw [bI, bI, List.map_append, List.map_append, E5 i k k', lO l k k']
theorem sj : ∀ (bs : List (List It)) (k k' : Nat), (da bs k).map (·.2) = (da bs k').map (·.2)
 | [], k, k' => by rw [da, da]
 | b :: bs, k, k' => by rw [da, da, List.map_append, List.map_append, lO b k k', sj bs k k']
end
theorem wF {l : List It} {j : Nat} (h : j < l.length) : aN (l.take (j + 1)) = aN (l.take j) ++ l[j] :: ev (aM l[j]) := by
 unfold aN ev
 rw [List.take_succ_eq_append_getElem h, gy, bI, bI, List.append_nil, su, List.map_append, List.map_cons, sj _ _ 0]
theorem DS {bs : List (List It)} {m : Nat} (h : m < bs.length) : ev (bs.take (m + 1)) = ev (bs.take m) ++ aN bs[m] := by
 unfold aN ev
 rw [List.take_succ_eq_append_getElem h, iw, sr, List.map_append]
theorem MAllAt.append {w : World} {P : Nat → Prop} {k : List It} {us : List Value} (hk : MAllAt w P k us) : ∀ {l : List It} {vs : List Value}, MAllAt w P l vs → MAllAt w P (l ++ k) (vs ++ us)
 | [], vs, h => by rw [MAllAt] at h; rw [h]; exact hk
 | i :: l, vs, h => by
  rw [MAllAt] at h
  obtain ⟨u, t, e, h1, h2⟩ := h
  rw [e, List.cons_append, List.append_assoc, MAllAt]
  exact ⟨u, t ++ us, rfl, h1, MAllAt.append hk h2⟩
mutual
theorem E6 : ∀ (i : It) (k : Nat), (dr i k).length ≤ (aK i).length
 | .blk c, k => by rw [dr, aK]; simp
 | .ask c l r, k => by
  rw [dr, aK]
  have h1 := jS l k
  have h2 := jS r k
  simp only [List.length_cons, List.length_append, List.length_nil]; omega
 | .stop, k => by rw [dr, aK]; simp
 | .frame b l, k => by
  rw [dr, aK]
  have h1 := jS l (k + 1)
  simp only [List.length_cons, List.length_append, List.length_nil]; omega
 | .leave n, k => by rw [dr, aK]; simp
 | .set n, k => by rw [dr, aK]; simp
 | .pick bs, k => by
  rw [dr, aK]
  have h1 := yJ bs k
  simp only [List.length_cons]; omega
theorem jS : ∀ (l : List It) (k : Nat), (bI l k).length ≤ (aH l).length
 | [], k => by rw [bI]; simp
 | i :: l, k => by rw [bI, aH, List.length_append, List.length_append]; have := E6 i k; have := jS l k; omega
theorem yJ : ∀ (bs : List (List It)) (k : Nat), (da bs k).length ≤ (bV bs).length
 | [], k => by rw [da]; simp
 | b :: bs, k => by
  rw [da, bV]
  have h1 := jS b k
  have h2 := yJ bs k
  simp only [List.length_cons, List.length_append]; omega
end
theorem mM (l : List It) : (aN l).length ≤ (aH l).length := by unfold aN; rw [List.length_map]; exact jS l 0
theorem wG (l : List It) (j : Nat) : (aN (l.take j)).length ≤ (aN l).length := by
 have h : aN l = aN (l.take j) ++ aN (l.drop j) := by
  have := gy (l.take j) (l.drop j) 0
  rw [List.take_append_drop] at this
  unfold aN; rw [this, List.map_append]
 rw [h, List.length_append]; omega
theorem wH (bs : List (List It)) (m : Nat) : (ev (bs.take m)).length ≤ (ev bs).length := by
 have h : ev bs = ev (bs.take m) ++ ev (bs.drop m) := by
  have := iw (bs.take m) (bs.drop m) 0
  rw [List.take_append_drop] at this
  unfold ev; rw [this, List.map_append]
 rw [h, List.length_append]; omega
def DT (w0 : World) (P : Nat → Prop) (l : List It) (w : World) (e : Ending) (w' : World) : Prop :=
 ∃ g c xs, e = .returned (.slice (some ⟨g, 0, none⟩) (aN l).length c) ∧ w'.ownsRow w.heap.size 172 4 (.slice (some ⟨g, 0, none⟩) (aN l).length c) (aN l).length xs ∧ MAllAt w0 P (aN l) xs ∧ Below w.heap.size w w'
theorem uy {w w' : World} {base : Nat} {e : TypeId} {size : Nat} {v : Value} {n : Nat} {xs : List Value} (h : w.ownsRow base e size v n xs) (hb : Below w.heap.size w w') : w'.ownsRow base e size v n xs := by
 refine ⟨h.1, ?_⟩
 rcases h.2 with hn | ⟨g, cap, cur, hv, hb2, hg, rest⟩
 ·exact .inl hn
 ·refine .inr ⟨g, cap, cur, hv, hb2, ?_, rest⟩
  have hlt : g < w.heap.size := by
   rcases Nat.lt_or_ge g w.heap.size with h' | h'
   ·exact h'
   ·rw [Array.getElem?_eq_none h'] at hg; cases hg
  exact (hb.block g hlt).trans hg
theorem MBodAt.slice {w : World} {P : Nat → Prop} {i : It} {v : Value} (h : MBodAt w P i v) : ∃ A n k, v = .slice A n k := by
 rw [pZ] at h
 obtain ⟨vs, ⟨A, k, rfl, _⟩, _⟩ := h
 exact ⟨_, _, _, rfl⟩
theorem MAllAt.one {w : World} {P : Nat → Prop} : ∀ {l : List It} {vs : List Value}, MAllAt w P l vs → ∀ u ∈ vs, u.oneCell' = true
 | [], vs, h, u, hu => by rw [MAllAt] at h; subst h; cases hu
 | i :: l, vs, h, u, hu => by
  rw [MAllAt] at h
  obtain ⟨vb, t, rfl, h1, h2⟩ := h
  rcases List.mem_append.1 hu with hu | hu
  ·obtain ⟨A, n, k, rfl⟩ := h1.slice
   simp [gi] at hu
   rcases hu with rfl | rfl | rfl | rfl <;> rfl
  ·exact MAllAt.one h2 u hu
theorem Ag (w0 : World) (P : Nat → Prop) (hP : ∀ b, P b → b < w0.heap.size) : ∀ (N : Nat) (l : List It) (v : Value) (w : World), N ≤ 1000 → (aH l).length < N → MRowAt w0 P l v → Av P w0 w →
  Calls Tryz.prog 115 #[v] w (DT w0 P l w) := by
 intro N
 induction N with
 | zero => intro l v w _ hN; omega
 | succ N IH =>
  intro l v w hN1 hN hrow hsame
  obtain ⟨i0, hi, hz0, hz1, hz2⟩ := info_parts pa
  obtain ⟨xs, ⟨A, cap, rfl, hxl, hcells⟩, hall⟩ := hrow
  have HALL := GR hall
  have HCL := GR hcells
  have HXL := GR hxl
  have HS := GR hsame
  have HIH := GR IH
  have HPL := GR hP
  have hl1000 : l.length ≤ 1000 := by have := jK l; omega
  have hf1000 : (aN l).length ≤ 1000 := by have := mM l; omega
  clear hall hcells hxl hsame IH hP
  go_enter Tryz.func115, Tryz.ntmps115
  go_wp2_with fail
  have HO0 := GR (World.ownsRow_made (base := w.heap.size) (e := 172) (size := 4) w #[] 0 (Nat.le_refl _) (Nat.zero_le _) rfl)
  go_loopg [3, 11] l.length (fun gk ov iv wr => ∃ (j g c : Nat) (ys : List Value), gk = l.length - j ∧ j ≤ l.length ∧ iv = .int .i64 j ∧ ov = .slice (some ⟨g, 0, none⟩) (aN (l.take j)).length c ∧ Hid (wr.ownsRow w.heap.size 172 4 (.slice (some ⟨g, 0, none⟩) (aN (l.take j)).length c) (aN (l.take j)).length ys) ∧ Hid (MAllAt w0 P (aN (l.take j)) ys) ∧ Hid (Below w.heap.size w wr))
  case atStart => exact ⟨0, _, 0, [], by omega, Nat.zero_le _, rfl, by rw [List.take_zero]; unfold aN; rw [bI]; rfl, by rw [List.take_zero]; unfold aN; rw [bI]; exact HO0.out, by rw [List.take_zero]; unfold aN; rw [bI]; exact MAllAt.nil _ _, (Below.refl _ _).alloc (Nat.le_refl _) _⟩
  case round =>
   obtain ⟨j, g, c, ys, rfl, hj, rfl, rfl, HOW, HYS, HB⟩ := hrel
   have hft := wG l j
   by_cases hjl : j < l.length
   ·obtain ⟨vb, hbod, y0, y1, y2, y3⟩ := HALL.out.at_ j hjl
    have hlx : l.length * 4 = xs.length := HXL.out.symm
    obtain ⟨b, off, rfl, hbl, hPb, hcell⟩ := HCL.out (by omega)
    have HBOD := GR hbod
    rw [pZ] at hbod
    obtain ⟨vs, ⟨A2, c2, rfl, hc2⟩, hrows⟩ := hbod
    have hsm : wr.heap[b]? = w0.heap[b]? := (HB.out.block b (by have := HS.out.1; omega)).trans (HS.out.2 b hbl hPb)
    have hat : ∀ k u, xs[k]? = some u → wr.cell? ⟨b, off + k, none⟩ = some u := fun k u hk => by
     have hkl := (List.getElem?_eq_some_iff.1 hk).1
     rw [dG hsm (off + k), hcell k hkl, ← List.getElem?_eq_getElem hkl]; exact hk
    have x0 : wr.cell? ⟨b, off + j * 4, none⟩ = some (.int .u8 (dn l[j]).toNat) := hat _ _ y0
    have x1 : wr.cell? ⟨b, off + j * 4 + 1, none⟩ = some (.string (tb (et l[j]))) := hat _ _ y1
    have x2 : wr.cell? ⟨b, off + j * 4 + 2, none⟩ = some (.int .i64 (fJ l[j])) := hat _ _ y2
    have x3 : wr.cell? ⟨b, off + j * 4 + 3, none⟩ = some (.slice A2 vs.length c2) := hat _ _ y3
    have hfl : (aN (l.take (j + 1))).length = (aN (l.take j)).length + 1 + (ev (aM l[j])).length := by rw [wF hjl, List.length_append, List.length_cons]; omega
    have hft2 := wG l (j + 1)
    have hbsz := HB.out.size
    have HOW1 := GR (HOW.out.alloc (.cells #[.int .u8 (dn l[j]).toNat, .string (tb (et l[j])), .int .i64 (fJ l[j]), .slice A2 vs.length c2] 172))
    clear hat y0 y1 y2 y3 hcell hlx hsm
    obtain ⟨W1, hW1⟩ : ∃ W1, W1 = wr.alloc (.cells #[.int .u8 (dn l[j]).toNat, .string (tb (et l[j])), .int .i64 (fJ l[j]), .slice A2 vs.length c2] 172) := ⟨_, rfl⟩
    have hs1 : W1.heap.size = wr.heap.size + 1 := by rw [hW1]; simp
    have HNEW : Hid ((W1.alloc (.cells #[.int .u8 (dn l[j]).toNat, .string (tb (et l[j])), .int .i64 (fJ l[j]), .slice A2 vs.length c2] 172)).heap[wr.heap.size + 1]? = some (.cells #[.int .u8 (dn l[j]).toNat, .string (tb (et l[j])), .int .i64 (fJ l[j]), .slice A2 vs.length c2] 172 (0, 0))) := by
     have h9 := heap_alloc_new W1 (.cells #[.int .u8 (dn l[j]).toNat, .string (tb (et l[j])), .int .i64 (fJ l[j]), .slice A2 vs.length c2] 172)
     rw [hs1] at h9; exact h9
    have HBX : Hid (Blk W1 wr.heap.size 172 #[.int .u8 (dn l[j]).toNat, .string (tb (et l[j])), .int .i64 (fJ l[j]), .slice A2 vs.length c2]) := by
     show Blk _ _ _ _
     rw [hW1]; exact Blk.new wr _ _
    have HB1 : Hid (Below w.heap.size w W1) := by
     show Below _ _ _
     rw [hW1]; exact HB.out.alloc hbsz _
    rw [← hW1] at HOW1
    have HW1 := GR hW1
    have HS1 := GR hs1
    have HROWS := GR hrows
    have HVB := GR hrows.len
    have HC2 := GR hc2
    clear hW1 hs1 hrows hc2
    go_wp2_with (at_builtin; rw [← HW1.out]; go_loud (refine wpList_append_own_at _ rfl _ _ 165 rfl w.heap.size 172 i0 _ 4 56 Tryz.underlying165 hi hz0 hz1 hz2 rfl (by decide) _ _ _ rfl (HOW1.out.alloc _) ⟨wr.heap.size + 1, 0, none⟩ 1 1 [.int .u8 (dn l[j]).toNat, .string (tb (et l[j])), .int .i64 (fJ l[j]), .slice A2 vs.length c2] rfl rfl ?c1 ?c2 ?c3 ?c4 ?c5 ?_))
    case c1 => exact World.news_of_block (cs := #[.int .u8 (dn l[j]).toNat, .string (tb (et l[j])), .int .i64 (fJ l[j]), .slice A2 vs.length c2]) (t := 172) (fr := (0, 0)) HNEW.out
    case c2 => simp [Value.oneCell']
    case c3 => unfold maxLen; omega
    case c4 => omega
    case c5 => have := HB1.out.size; simp; omega
    intro v' w5 hown' hgrow _ hat
    obtain ⟨g5, c5, rfl, hg5, hg5l⟩ := hown'.form (by omega)
    have hrowlt := HOW1.out.lt g rfl
    have hG : W1.grownBy w5 (some g) := (World.grownBy_alloc W1 _ _).trans hgrow
    have HBX5 : Hid (Blk w5 wr.heap.size 172 #[.int .u8 (dn l[j]).toNat, .string (tb (et l[j])), .int .i64 (fJ l[j]), .slice A2 vs.length c2]) :=
     (hG.block _ HBX.out.lt (fun e => by have := HOW.out.lt g rfl; have e2 := Option.some.inj e; omega)).trans HBX.out
    have HB5 : Hid (Below w.heap.size w w5) := HB1.out.grown hG HB1.out.size (fun k e => by have := Option.some.inj e; omega)
    have HYS5 := GR (HYS.out.snoc HBOD.out)
    have HOW5 := GR hown'
    have x3 := HBX5.out.cell 3
    have hft3 : (aN (l.take j)).length + 1 + (ev (aM l[j])).length ≤ 1000 := by omega
    clear hown' hgrow hat hG hrowlt
    go_wp2_with fail
    clear x0 x1 x2 x3 HW1
    go_loopg [3, 22] vs.length (fun gk ov iv wr => ∃ (m g' c' : Nat) (zs : List Value), gk = vs.length - m ∧ m ≤ vs.length ∧ iv = .int .i64 m ∧ ov = .slice (some ⟨g', 0, none⟩) ((aN (l.take j)).length + 1 + (ev ((aM l[j]).take m)).length) c' ∧ Hid (wr.ownsRow w.heap.size 172 4 (.slice (some ⟨g', 0, none⟩) ((aN (l.take j)).length + 1 + (ev ((aM l[j]).take m)).length) c') ((aN (l.take j)).length + 1 + (ev ((aM l[j]).take m)).length) zs) ∧ Hid (MAllAt w0 P (aN (l.take j) ++ l[j] :: ev ((aM l[j]).take m)) zs) ∧ Hid (Below w.heap.size w wr))
    case atStart =>
     have hz0 : ev ((aM l[j]).take 0) = [] := by rw [List.take_zero]; unfold ev; rw [da]; rfl
     refine ⟨0, g5, c5, ys ++ gi l[j] (.slice A2 vs.length c2), by omega, Nat.zero_le _, rfl, by rw [hz0]; rfl, ?_, ?_, HB5.out⟩
     ·rw [hz0]; exact HOW5.out
     ·rw [hz0]; exact HYS5.out
    case round =>
     obtain ⟨m, g', c', zs, rfl, hm, rfl, rfl, HOWm, HZS, HBm⟩ := hrel
     have hfm := wH (aM l[j]) m
     have hvsl : vs.length ≤ 1000 := by
      have h1 := rK l[j]
      have h2 := jT (List.getElem_mem hjl)
      have := HVB.out
      omega
     by_cases hml : m < vs.length
     ·have hmb : m < (aM l[j]).length := by have := HVB.out; omega
      obtain ⟨vm, hvm, hrm⟩ := HROWS.out.at_ m hmb
      obtain ⟨xm, ⟨A6, k6, rfl, hx6⟩, hx7⟩ := hrm
      have HRM : Hid (MRowAt w0 P (aM l[j])[m] (.slice A6 (aM l[j])[m].length k6)) := ⟨xm, ⟨A6, k6, rfl, hx6⟩, hx7⟩
      obtain ⟨b2, off2, rfl, hb2l, hP2, hcell2⟩ := HC2.out (by omega)
      have hsz := HBm.out.size
      have hsm2 : wr.heap[b2]? = w0.heap[b2]? := (HBm.out.block b2 (by have := HS.out.1; omega)).trans (HS.out.2 b2 hb2l hP2)
      have x0 : wr.cell? ⟨b2, off2 + m, none⟩ = some (.slice A6 (aM l[j])[m].length k6) := by
       rw [dG hsm2 (off2 + m), hcell2 m hml, ← List.getElem?_eq_getElem hml]; exact hvm
      have HC := GR (HIH.out (aM l[j])[m] _ wr (by omega) (by
       have h1 := lz (List.getElem_mem hmb)
       have h2 := jT (List.getElem_mem hjl)
       omega) HRM.out ⟨by have := HS.out.1; omega, fun b hb hp => (HBm.out.block b (by have := HS.out.1; omega)).trans (HS.out.2 b hb hp)⟩)
      have HST := GR (DS hmb)
      have hst2 : (ev ((aM l[j]).take (m + 1))).length = (ev ((aM l[j]).take m)).length + (aN (aM l[j])[m]).length := by rw [HST.out, List.length_append]
      have hfm2 := wH (aM l[j]) (m + 1)
      have HSL := GR hst2
      have HM1 := GR (show m + 1 ≤ vs.length from hml)
      have hn2 : (ev ((aM l[j]).take m)).length + (aN (aM l[j])[m]).length ≤ (ev (aM l[j])).length := by omega
      clear hvm hx6 hx7 hcell2 hsm2 hst2
      go_wp2_with fail
      refine HC.out.mono ?_
      rintro e w3 ⟨g2, c2', xs2, rfl, hown2, hms2, b3⟩
      have HOW3 := GR (uy HOWm.out b3)
      have HB3 := GR (HBm.out.trans (b3.mono hsz))
      have HX2 : Hid (∀ (jj : Nat) (u : Value), xs2[jj]? = some u → w3.cell? ((⟨g2, 0, none⟩ : Addr).add jj) = some u) := by
       intro jj u hj
       have hjl2 := (List.getElem?_eq_some_iff.1 hj).1
       have hl2 := hms2.len
       have hc := hown2.cellAt jj (by omega)
       rw [hj] at hc
       rw [show ((⟨g2, 0, none⟩ : Addr).add jj) = ⟨g2, jj, none⟩ by simp [Addr.add]; omega]
       exact hc
      have HMS := GR hms2
      have h3s := HB3.out.size
      clear b3 hown2 hms2 x0
      go_wp2_with (at_builtin; go_loud (refine wpList_append_own_at _ rfl _ _ 165 rfl w.heap.size 172 i0 _ 4 56 Tryz.underlying165 hi hz0 hz1 hz2 rfl (by decide) _ _ _ rfl HOW3.out ⟨g2, 0, none⟩ (aN (aM l[j])[m]).length c2' xs2 rfl HMS.out.len HX2.out (MAllAt.one HMS.out) ?d3 ?d4 ?d5 ?_))
      case d3 => unfold maxLen; omega
      case d4 => omega
      case d5 => omega
      intro v' w7 hown7 hgrow7 _ _
      have hr7 := HOW3.out.lt g' rfl
      obtain ⟨g7, c7, rfl, hg7, hg7l⟩ := hown7.form (by omega)
      have HB7 : Hid (Below w.heap.size w w7) := HB3.out.grown hgrow7 h3s (fun k e => by have e2 : g' = k := Option.some.inj e; omega)
      have HOW7 : Hid (w7.ownsRow w.heap.size 172 4 (.slice (some ⟨g7, 0, none⟩) ((aN (l.take j)).length + 1 + (ev ((aM l[j]).take (m + 1))).length) c7) ((aN (l.take j)).length + 1 + (ev ((aM l[j]).take (m + 1))).length) (zs ++ xs2)) := by
       show World.ownsRow _ _ _ _ _ _ _
       rw [HSL.out, ← Nat.add_assoc]; exact hown7
      have HZ7 : Hid (MAllAt w0 P (aN (l.take j) ++ l[j] :: ev ((aM l[j]).take (m + 1))) (zs ++ xs2)) := by
       show MAllAt _ _ _ _
       rw [HST.out, show aN (l.take j) ++ l[j] :: (ev ((aM l[j]).take m) ++ aN (aM l[j])[m]) = (aN (l.take j) ++ l[j] :: ev ((aM l[j]).take m)) ++ aN (aM l[j])[m] by simp]
       exact MAllAt.append HMS.out HZS.out
      clear hown7 hgrow7 hr7
      go_wp2_with fail
      go_roundg (vs.length - (m + 1))
      case measure => have := HM1.out; omega
      case rel => exact ⟨m + 1, g7, c7, zs ++ xs2, rfl, HM1.out, by go_num, by rw [HSL.out, ← Nat.add_assoc], HOW7.out, HZ7.out, HB7.out⟩
     ·have hmv : m = (aM l[j]).length := by have := HVB.out; omega
      have HFJ := GR (show aN (l.take (j + 1)) = aN (l.take j) ++ l[j] :: ev ((aM l[j]).take m) by rw [wF hjl, hmv, List.take_length])
      have hlj : (aN (l.take (j + 1))).length = (aN (l.take j)).length + 1 + (ev ((aM l[j]).take m)).length := by rw [HFJ.out, List.length_append, List.length_cons]; omega
      have HLJ := GR hlj
      have HJ1 := GR (show j + 1 ≤ l.length from hjl)
      clear hmv hlj
      go_wp2_with fail
      go_roundg (l.length - (j + 1))
      case measure => have := HJ1.out; omega
      case rel =>
       refine ⟨j + 1, g', c', zs, rfl, HJ1.out, by go_num, by rw [HLJ.out], ?_, ?_, HBm.out⟩
       ·rw [HLJ.out]; exact HOWm.out
       ·rw [HFJ.out]; exact HZS.out
   ·have hjl2 : j = l.length := by omega
    have HE := GR (show aN (l.take j) = aN l by rw [hjl2, List.take_length])
    have HOWE : Hid (wr.ownsRow w.heap.size 172 4 (.slice (some ⟨g, 0, none⟩) (aN l).length c) (aN l).length ys) := by
     have := HOW.out
     rw [HE.out] at this; exact this
    have HYE : Hid (MAllAt w0 P (aN l) ys) := by
     have := HYS.out
     rw [HE.out] at this; exact this
    clear hjl2
    go_wp2_with fail
    go_ret
    exact ⟨g, c, ys, by rw [HE.out]; rfl, HOWE.out, HYE.out, HB.out⟩
end Go.Proofs.YtlkfakdghjaoaaaGreatDoor

namespace Go.Proofs.YtlkfakdghjaoaaaGreatDoor
open Go.RowKit Go.Sort
end Go.Proofs.YtlkfakdghjaoaaaGreatDoor

set_option maxRecDepth 100000
namespace Go.Proofs.YtlkfakdghjaoaaaGreatDoor
open Go.RowKit Go.Sort
theorem oR (s : List UInt8) (w : World) :
  Calls Tryz.prog 44 #[.string (tb s)] w fun e w' => ((∃ l, bh s l) ∧ e = .returned (.bool true) ∨ (∀ l, ¬ bh s l) ∧ e = .returned (.bool false)) ∧ Below w.heap.size w w' := by
 have HC := GR (k8 s w)
 go_enter Tryz.func44, Tryz.ntmps44
 go_wp2_with fail
 refine HC.out.mono ?_
 rintro e w1 (⟨l, v, hl, rfl, _, _, b1⟩ | ⟨hno, rfl, b1⟩)
 ·have HL := GR hl
  have HB := GR b1
  clear hl b1
  go_wp2_with fail
  go_ret
  exact ⟨.inl ⟨⟨l, HL.out⟩, rfl⟩, HB.out⟩
 ·have HN := GR hno
  have HB := GR b1
  clear hno b1
  go_wp2_with fail
  go_ret
  exact ⟨.inr ⟨HN.out, rfl⟩, HB.out⟩
end Go.Proofs.YtlkfakdghjaoaaaGreatDoor
namespace Go.Proofs.YtlkfakdghjaoaaaGreatDoor
open Go.RowKit Go.Sort
open Classical in
noncomputable def iq (s : List UInt8) : Bool := if ∃ l, bh s l then true else false
theorem tT {s : List UInt8} (h : ∃ l, bh s l) : iq s = true := if_pos h
theorem p4 {s : List UInt8} (h : ∀ l, ¬ bh s l) : iq s = false := if_neg (fun ⟨l, hl⟩ => h l hl)
theorem Cg {s : List UInt8} (h : iq s = true) : ∃ l, bh s l := by
 by_cases k : ∃ l, bh s l
 ·exact k
 ·rw [p4 fun l hl => k ⟨l, hl⟩] at h; cases h
theorem sm (s : ByteArray) (w : World) (hs : s.size ≤ 1048576) :
  Calls Tryz.prog 96 #[.string s] w fun e w' => e = .returned (.bool (iq s.data.toList)) ∧ Below w.heap.size w w' := by
 have h := oO s.data.toList w (by simpa using hs)
 rw [uF] at h
 refine h.mono ?_
 rintro e w' ⟨⟨hl, rfl⟩ | ⟨hl, rfl⟩, hb⟩
 ·exact ⟨by rw [tT hl], hb⟩
 ·exact ⟨by rw [p4 hl], hb⟩
theorem sn (s : ByteArray) (w : World) :
  Calls Tryz.prog 44 #[.string s] w fun e w' => e = .returned (.bool (iq s.data.toList)) ∧ Below w.heap.size w w' := by
 have h := oR s.data.toList w
 rw [uF] at h
 refine h.mono ?_
 rintro e w' ⟨⟨hl, rfl⟩ | ⟨hl, rfl⟩, hb⟩
 ·exact ⟨by rw [tT hl], hb⟩
 ·exact ⟨by rw [p4 hl], hb⟩
end Go.Proofs.YtlkfakdghjaoaaaGreatDoor
