/-
  The law FnPruneTree, walked.
-/
import Derived.Test.YtklnhbfpmmdhjaaGreatPruneDom
import Derived.Test.YtklnhbfpmmdhjaaGreatTreeText
import Derived.Test.YtklnhbfpmmdhjaaGreatDominatorsOf
import Derived.Test.YtklnhbfpmmdhjaaGreatPrune
import Derived.Test.YtklnhbfpmmdhjaaGreatTot
import Derived.Test.YtklnhbfpmmdhjaaGreatNamesOf
import Derived.Test.YtklnhbfpmmdhjaaGreatLaw
import Derived.Test.YtklnhbfpmmdhjaaGreatDraws
namespace Go.Proofs.YtklnhbfpmmdhjaaGreat
open Go.RowKit Go.Sort

theorem OwnGr.keepT {w w' : World} {B : Nat} {g : List Bl} (h : OwnGr w B g) (hb : Below w.heap.size w w') : OwnGr w' B g := by
  obtain ⟨cs, t, hk, hc⟩ := h
  exact ⟨cs, t, hk.below hb hk.lt, hc⟩

/-- The first letter of a text that begins with a name. -/
theorem first_of {a s : ByteArray} (h : a.size = 1) : (a ++ s).extract 0 1 = a := by
  apply ba_ext
  have hl : a.data.toList.length = 1 := by rw [Array.length_toList]; exact h
  rw [← Lib.toList_data, Lib.extract_toList]
  simp only [List.drop_zero, Nat.sub_zero, ByteArray.data_append, Array.toList_append]
  rw [List.take_append_of_le_length (by omega), List.take_of_length_le (by omega)]
theorem first_self {a : ByteArray} (h : a.size = 1) : a.extract 0 1 = a := by
  have := first_of (s := ⟨#[]⟩) h
  rwa [ba_append_empty] at this

theorem tree_first {g : List Bl} (hv : validB g = true) : (treeV g).extract 0 1 = nthName g 0 ∧ 0 < (treeV g).size := by
  have hpos := (valid_iff.1 hv).1
  have h1 := one_size hv hpos
  obtain ⟨m, hm⟩ : ∃ m, g.length = m + 1 := ⟨g.length - 1, by omega⟩
  rw [treeV_yes hv, hm]
  by_cases hk : kidsL g 0 = []
  · rw [treeT_leaf hk]; exact ⟨first_self h1, by omega⟩
  · rw [treeT_kids hk]; exact ⟨first_of h1, by rw [ByteArray.size_append]; omega⟩

theorem dom_first {g : List Bl} (hv : validB g = true) (n : Nat) : (namesAt g (domL g n)).extract 0 1 = nthName g 0 ∧ 0 < (namesAt g (domL g n)).size := by
  have hpos := (valid_iff.1 hv).1
  have h1 := one_size hv hpos
  obtain ⟨l, e⟩ := domL_head hv (n := n)
  rw [e]
  show (nthName g 0 ++ namesAt g l).extract 0 1 = nthName g 0 ∧ 0 < (nthName g 0 ++ namesAt g l).size
  exact ⟨first_of h1, by rw [ByteArray.size_append]; omega⟩

set_option maxRecDepth 100000 in
set_option maxHeartbeats 3200000 in
theorem pruneTree_walk (A : Option Addr) (la ca : Nat) (w : World) (hA : Bytes w A la) (h1 : la ≤ ca) (h3 : ca ≤ 9223372036854775807) :
    Calls Tryz.prog 5 #[.slice A la ca] w fun e w' => e = .returned (.bool true) ∧ Below w.heap.size w w' := by
  by_cases g1 : (1048576 : Int) < la
  · clear hA
    go_enter Tryz.func5, Tryz.ntmps5
    go_wp2_with fail
    go_ret
    exact ⟨rfl, Below.refl _ _⟩
  have HA := Lib.hid (drawDominatorTree_any A la ca w hA h1 h3)
  clear hA
  go_enter Tryz.func5, Tryz.ntmps5
  go_wp2_with fail
  refine HA.out.mono ?_
  intro e w1 hd1
  obtain ⟨A1, c1, g, rfl, hc1, gg, hn1, b1⟩ := drawn_of hd1
  have HB1 := Lib.hid b1
  have HG1 := Lib.hid gg
  clear hd1 b1 gg
  obtain ⟨tr, htr⟩ : ∃ x, x = treeV g := ⟨_, rfl⟩
  obtain ⟨vb, hvb⟩ : ∃ x, x = validB g := ⟨_, rfl⟩
  have HTI := Lib.hid (fun W (h : Gr W A1 g) => (htr ▸ hvb ▸ implTree_any A1 c1 g W h (by omega) : Calls Tryz.prog 15 #[.slice A1 g.length c1] W fun e w' => e = .returned (.tuple #[.string tr, .bool vb]) ∧ Below W.heap.size W w'))
  have HTS := Lib.hid (fun W (h : Gr W A1 g) => (htr ▸ hvb ▸ specTree_any A1 c1 g W h (by omega) hc1 : Calls Tryz.prog 16 #[.slice A1 g.length c1] W fun e w' => e = .returned (.tuple #[.string tr, .bool vb]) ∧ Below W.heap.size W w'))
  have HTR := Lib.hid htr
  have HVB := Lib.hid hvb
  clear htr hvb
  go_wp2_with fail
  refine (HTI.out w1 HG1.out).mono ?_
  rintro e w2 ⟨rfl, b2⟩
  have HG2 := Lib.hid (HG1.out.below b2)
  have HB2 := Lib.hid (below_trans_self HB1.out b2)
  clear b2
  go_wp2_with fail
  refine (HTS.out w2 HG2.out).mono ?_
  rintro e w3 ⟨rfl, b3⟩
  have HG3 := Lib.hid (HG2.out.below b3)
  have HB3 := Lib.hid (below_trans_self HB2.out b3)
  clear b3
  have t1 : (tr.toList == tr.toList) = true := by simp
  have t2 : (tr.toList != tr.toList) = false := by simp
  cases vb with
  | false =>
    have v1 : (false == false) = true := rfl
    have v2 : (false != false) = false := rfl
    go_wp2_with fail
    go_ret
    exact ⟨rfl, HB3.out⟩
  | true =>
    have hv : validB g = true := HVB.out.symm
    have h26 := (valid_iff.1 hv).2.1
    have hpos := (valid_iff.1 hv).1
    obtain ⟨p, hp⟩ : ∃ p, p = pruneG g := ⟨_, rfl⟩
    have hpv : validB p = true := hp ▸ prune_valid hv
    have hpt := valid_tot hpv
    have hpl : p.length ≤ 26 := (valid_iff.1 hpv).2.1
    have hN : p.length = (reachS g).length := by rw [hp, pruneG_length]
    have HP := Lib.hid (fun W (h : Gr W A1 g) => (implPrune_yes A1 c1 g W h (by omega) hv).mono fun e w' h => show ∃ B, W.heap.size ≤ B ∧ e = .returned (.tuple #[.slice (some ⟨B, 0, none⟩) p.length p.length, .bool true]) ∧ OwnGr w' B p ∧ Below W.heap.size W w' from hp ▸ h)
    obtain ⟨ns, hns⟩ : ∃ x, x = namesVal p := ⟨_, rfl⟩
    have hne : ns = namesAt p (List.range p.length) := by rw [hns, namesVal_yes hpv, namesAt_all p p.length (Nat.le_refl _), List.take_length]
    have hrl : ∀ i ∈ List.range p.length, i < p.length := fun i hi => List.mem_range.1 hi
    have hnz : ns.size = p.length := by rw [hne, namesAt_size hpv _ hrl, List.length_range]
    have htp : treeV p = tr := by rw [HTR.out, hp]; exact prune_tree hv
    have HNP := Lib.hid (fun A cap W (h : Gr W A p) => (by have := implNames_any A cap p W h (by omega); rw [← hns, hpv] at this; exact this : Calls Tryz.prog 18 #[.slice A p.length cap] W fun e w' => e = .returned (.tuple #[.string ns, .bool true]) ∧ Below W.heap.size W w'))
    have HTP := Lib.hid (fun A cap W (h : Gr W A p) => (by have := implTree_any A cap p W h (by omega); rw [htp, hpv] at this; exact this : Calls Tryz.prog 15 #[.slice A p.length cap] W fun e w' => e = .returned (.tuple #[.string tr, .bool true]) ∧ Below W.heap.size W w'))
    have hcutn : ∀ k, k < ns.size → ns.extract k (k + 1) = nthName p k := fun k hk => by
      have hk' : k < (List.range p.length).length := by rw [List.length_range]; omega
      obtain ⟨h, e⟩ := namesAt_cut hpv hrl hk'
      rw [hne, e, nthName_at (by omega)]
      congr 2
      exact List.getElem_range hk'
    have HROUND := Lib.hid (fun k (hk : k < ns.size) => (by
      have hkr : k < (reachS g).length := by omega
      have e1 : ns.extract k (k + 1) = nthName p k := hcutn k hk
      have e2 : nthName p k = nthName g (rho g k) := by rw [hp]; exact prune_name' hkr
      obtain ⟨d1, d2⟩ := dom_first hv (rho g k)
      refine ⟨namesAt g (domL g (rho g k)), d1, d2, ?_, ?_, ?_⟩
      · rw [namesAt_size hv _ fun x hx => (((mem_domL hv (rho_live hv hkr)).1 hx).live (rho_live hv hkr)).lt hv]
        have := domL_len hv (rho g k); omega
      · intro W h
        have := implDominators_any A1 c1 g (ns.extract k (k + 1)) W h (by omega)
        rw [e1, e2, domV_some (live_rho hv hkr), liveB_some (live_rho hv hkr), ← e2, ← e1] at this
        exact this
      · intro A cap W h
        have := implDominators_any A cap p (ns.extract k (k + 1)) W h (by omega)
        have e3 : domV p (ns.extract k (k + 1)) = namesAt g (domL g (rho g k)) := by
          rw [e1, hp, prune_domV hv hkr, domV_some (live_rho hv hkr)]
        have e4 : liveB p (ns.extract k (k + 1)) = true := by
          rw [e1, hp]; exact liveB_some (live_left hv hkr)
        rw [e3, e4] at this
        exact this : ∃ dv : ByteArray, dv.extract 0 1 = nthName g 0 ∧ 0 < dv.size ∧ dv.size ≤ 26 ∧
        (∀ W, Gr W A1 g → Calls Tryz.prog 19 #[.slice A1 g.length c1, .string (ns.extract k (k + 1))] W fun e w' => e = .returned (.tuple #[.string dv, .bool true]) ∧ Below W.heap.size W w') ∧
        (∀ A cap W, Gr W A p → Calls Tryz.prog 19 #[.slice A p.length cap, .string (ns.extract k (k + 1))] W fun e w' => e = .returned (.tuple #[.string dv, .bool true]) ∧ Below W.heap.size W w')))
    obtain ⟨tf1, tf2⟩ := tree_first hv
    rw [← HTR.out] at tf1 tf2
    have htz : tr.size ≤ 1048576 := by
      rw [HTR.out, treeV_yes hv]
      have := treeT_small hv (m := g.length) (n := 0) (.start (by simp)); omega
    have HTF := Lib.hid tf1
    have hn26 : ns.size ≤ 26 := by omega
    clear hp hpv hN hns hne hrl hnz htp hcutn tf1
    go_wp2_with fail
    refine (HP.out w3 HG3.out).mono ?_
    rintro e w4 ⟨B, hB4, rfl, o4, b4⟩
    have HG4 := Lib.hid (HG3.out.below b4)
    have HO4 := Lib.hid o4
    have HB4 := Lib.hid (below_trans_self HB3.out b4)
    clear o4 b4
    go_wp2_with fail
    refine (HTP.out _ _ w4 HO4.out.gr).mono ?_
    rintro e w5 ⟨rfl, b5⟩
    have HG5 := Lib.hid (HG4.out.below b5)
    have HO5 := Lib.hid (HO4.out.keepT b5)
    have HB5 := Lib.hid (below_trans_self HB4.out b5)
    clear b5
    go_wp2_with fail
    refine (HNP.out _ _ w5 HO5.out.gr).mono ?_
    rintro e w6 ⟨rfl, b6⟩
    have HG6 := Lib.hid (HG5.out.below b6)
    have HO6 := Lib.hid (HO5.out.keepT b6)
    have HB6 := Lib.hid (below_trans_self HB5.out b6)
    clear b6
    go_wp2_with fail
    go_loopw [71] (fun iv wr => ∃ (k : Nat), k ≤ ns.size ∧ iv = .int .i64 k ∧ Below w6.heap.size w6 wr) (fun iv _ => ns.size - (intOf iv).toNat)
    case atStart => exact ⟨0, Nat.zero_le _, rfl, Below.refl _ _⟩
    case round =>
      obtain ⟨k, hk, rfl, hB⟩ := hrel
      have HGR := Lib.hid (HG6.out.below hB)
      have HOR := Lib.hid (HO6.out.keepT hB)
      have HBR := Lib.hid hB
      clear hB
      by_cases hlt : k < ns.size
      · obtain ⟨dv, d1, d2, d3, hD1, hD2⟩ := HROUND.out k hlt
        have HD1 := Lib.hid hD1
        have HD2 := Lib.hid hD2
        have HE1 := Lib.hid d1
        have hk1 : k + 1 ≤ ns.size := by omega
        clear d1 hD1 hD2
        go_wp2_with fail
        refine (HD1.out wr HGR.out).mono ?_
        rintro e w7 ⟨rfl, b7⟩
        have HG7 := Lib.hid (HGR.out.below b7)
        have HO7 := Lib.hid (HOR.out.keepT b7)
        have HB7 := Lib.hid (HBR.out.trans (b7.mono HBR.out.size))
        clear b7
        go_wp2_with fail
        refine (HD2.out _ _ w7 HO7.out.gr).mono ?_
        rintro e w8 ⟨rfl, b8⟩
        have HG8 := Lib.hid (HG7.out.below b8)
        have HB8 := Lib.hid (HB7.out.trans (b8.mono HB7.out.size))
        clear b8
        obtain ⟨b, off, t0, t1', hA1, hb, hc0, _, he0, _⟩ := gr_at HG8.out hpos
        have x0 : w8.cell? ⟨b, off, none⟩ = some (.string t0) := by simpa using hc0
        have q1 : ((dv.extract 0 1).toList == t0.toList) = true := by
          rw [HE1.out, nthName_at hpos, he0]; simp
        have q2 : ((dv.extract 0 1).toList != t0.toList) = false := by
          rw [HE1.out, nthName_at hpos, he0]; simp
        have q3 : (dv.toList == dv.toList) = true := by simp
        have q4 : (dv.toList != dv.toList) = false := by simp
        have hgi : (0 : Int) < (g.length : Int) := by omega
        clear hc0 he0
        subst hA1
        go_wp2_with fail
        go_quiet (fail)
        have HB9 := Lib.hid (HB8.out.trans ((below_drewN w8 nq).mono HB8.out.size))
        go_wp2_with fail
        go_roundw
        case rel => exact ⟨k + 1, by omega, by go_num, HB9.out⟩
        case measure => simp [intOf]; omega
      · obtain ⟨b, off, t0, t1', hA1, hb, hc0, _, he0, _⟩ := gr_at HGR.out hpos
        have x0 : wr.cell? ⟨b, off, none⟩ = some (.string t0) := by simpa using hc0
        have q1 : ((tr.extract 0 1).toList == t0.toList) = true := by
          rw [HTF.out, nthName_at hpos, he0]; simp
        have hgi : (0 : Int) < (g.length : Int) := by omega
        clear hc0 he0
        subst hA1
        go_wp2_with fail
        go_quiet (fail)
        have HB9 := Lib.hid (HBR.out.trans ((below_drewN wr nq).mono HBR.out.size))
        go_wp2_with fail
        go_ret
        exact ⟨rfl, below_trans_self HB6.out HB9.out⟩
end Go.Proofs.YtklnhbfpmmdhjaaGreat
