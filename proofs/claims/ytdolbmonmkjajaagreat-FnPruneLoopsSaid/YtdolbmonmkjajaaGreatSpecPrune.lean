/-
  Contract of the model's PruneGraph.
-/
import Derived.Test.YtdolbmonmkjajaaGreatPrune
import Derived.Test.YtdolbmonmkjajaaGreatDraws
namespace Go.Proofs.YtdolbmonmkjajaaGreat
open Go.RowKit Go.Sort

/-- Of what PruneGraph leaves: what comes from the first k blocks. -/
def pruneTo (g : List Bl) (k : Nat) : List Bl := (srt g (reachS g) k).map fun i => (nthName g i, nthNext g i)

theorem pruneTo_all {g : List Bl} (hv : validB g = true) : pruneTo g g.length = pruneG g := by
  unfold pruneTo pruneG
  congr 1
  conv => rhs; rw [reachS_srt]
  unfold srt
  apply List.filter_congr
  intro i _
  rw [Bool.eq_iff_iff, decide_eq_true_iff, decide_eq_true_iff]
  rw [reachS_srt]; unfold srt
  rw [List.mem_filter, List.mem_range]
  constructor
  · rintro ⟨_, h⟩; simpa using h
  · intro h; exact ⟨reach_lt hv h, by simpa using h⟩

theorem pruneTo_yes {g : List Bl} {k : Nat} (hk : k < g.length) (h : k ∈ reachS g) : pruneTo g (k + 1) = pruneTo g k ++ [(g[k].1, g[k].2)] := by
  unfold pruneTo; rw [srt_yes h, List.map_append]
  congr 1
  simp only [List.map_cons, List.map_nil]
  rw [nthName_at hk, nthNext_at hk]
theorem pruneTo_no {g : List Bl} {k : Nat} (h : k ∉ reachS g) : pruneTo g (k + 1) = pruneTo g k := by unfold pruneTo; rw [srt_no h]
theorem pruneTo_length (g : List Bl) (k : Nat) : (pruneTo g k).length ≤ k := by unfold pruneTo; rw [List.length_map]; exact srt_len g _ k

theorem below_grown' {n : Nat} {w a a' : World} {row : Option Nat} (h : Below n w a) (hg : a.grownBy a' row) (hn : n ≤ a.heap.size) (hr : ∀ k, row = some k → n ≤ k) : Below n w a' :=
  ⟨hg.os.trans h.os, hg.tape.trans h.tape, hg.output.trans h.output, Nat.le_trans h.size hg.size, fun k hk => (hg.block k (by omega) (fun e => by have := hr k e.symm; omega)).trans (h.block k hk)⟩

def PruneOwn (g : List Bl) (b : Bool) (w : World) (e : Ending) (w' : World) : Prop :=
  ∃ v, e = .returned (.tuple #[v, .bool b]) ∧ OwnBl w' w.heap.size v g ∧ Below w.heap.size w w'

set_option maxRecDepth 100000 in
set_option maxHeartbeats 3200000 in
theorem specPrune_yes (A : Option Addr) (cap : Nat) (g : List Bl) (w : World) (hg : Gr w A g) (hn : g.length + tot g ≤ 1048576) (hcap : g.length ≤ cap) (hv : validB g = true) :
    Calls Tryz.prog 49 #[.slice A g.length cap] w (PruneOwn (pruneG g) true w) := by
  obtain ⟨i0, hi, hz0, hz1, hz2⟩ := info_parts info_block
  have HVC := Lib.hid (fun w (h : Gr w A g) => (hv ▸ specValid_any A cap g w h hn hcap : Calls Tryz.prog 51 #[.slice A g.length cap] w fun e w' => e = .returned (.bool true) ∧ Below w.heap.size w w'))
  have HRC := Lib.hid (fun w h => l1Reached_any A cap g w h hn hv)
  have h26 := (valid_iff.1 hv).2.1
  have HG := Lib.hid hg
  have HV := Lib.hid hv
  obtain ⟨r, hr⟩ : ∃ r, r = namesAt g (reachS g) := ⟨_, rfl⟩
  have hrs : r.size ≤ 26 := by
    rw [hr, namesAt_size hv _ (reachS_lt g), reachS_srt]
    have := srt_len g (reach g) g.length; omega
  rw [← hr] at HRC
  have HR := Lib.hid hr
  have HA0 := Lib.hid (World.ownsRow_made (base := w.heap.size) (e := 56) (size := 2) w #[] 0 (Nat.le_refl _) (Nat.zero_le _) rfl)
  have HB0 : Hid (Below w.heap.size w (w.alloc (.cells #[] 56))) := (Below.refl _ _).alloc (Nat.le_refl _) _
  clear hv hg hr
  go_enter Tryz.func49, Tryz.ntmps49
  go_wp2_with fail
  refine (HVC.out _ (HG.out.below HB0.out)).mono ?_
  rintro e w1 ⟨rfl, b1⟩
  have HO1 : Hid (OwnBl w1 w.heap.size (.slice (some ⟨w.heap.size, 0, none⟩) 0 0) []) := by
    have h := HA0.out
    exact ownRow_below h b1
  have HB1 := Lib.hid (HB0.out.trans (b1.mono HB0.out.size))
  clear b1
  go_wp2_with fail
  refine (HRC.out _ (HG.out.below HB1.out)).mono ?_
  rintro e w2 ⟨rfl, b2⟩
  have HO2 : Hid (OwnBl w2 w.heap.size (.slice (some ⟨w.heap.size, 0, none⟩) 0 0) []) := ownRow_below HO1.out b2
  have HB2 := Lib.hid (HB1.out.trans (b2.mono HB1.out.size))
  clear b2
  go_wp2_with fail
  go_loopw [4, 17] (fun v i wr => ∃ k : Nat, k ≤ g.length ∧ i = .int .i64 k ∧ Hid (OwnBl wr w.heap.size v (pruneTo g k)) ∧ Below w.heap.size w wr) (fun _ i _ => g.length - (intOf i).toNat)
  case atStart => exact ⟨0, Nat.zero_le _, rfl, HO2, HB2.out⟩
  case round =>
    obtain ⟨k, hk, rfl, HOW, hB⟩ := hrel
    by_cases hlt : k < g.length
    · obtain ⟨b, off, t, t2, hA, hb, hc0, hc1, he, he2⟩ := gr_at (HG.out.below hB) hlt
      obtain ⟨c, hc, _⟩ := valid_one HV.out (List.getElem_mem hlt)
      have htc : t = ⟨#[c]⟩ := he.symm.trans hc
      have ht1 : t.size = 1 := by rw [htc]; rfl
      have h0t : 0 < t.size := by omega
      have hidx := idx_namesAt HV.out (reachS_lt g) hlt hc
      rw [← HR.out] at hidx
      obtain ⟨z, hz⟩ : ∃ z, z = Lib.indexByte r.data.toList c := ⟨_, rfl⟩
      rw [← hz] at hidx
      have HFC : Hid (∀ w, Calls Tryz.prog 53 #[.string r, .int .u8 (t[0]'h0t).toNat] w fun e w' => e = .returned (.int .i64 z) ∧ w = w') := fun w => by
        rw [hz, one_get htc h0t]; exact find_any r c w (by omega)
      have HE := Lib.hid he
      have HE2 := Lib.hid he2
      have HBA := Lib.hid (hB.alloc hB.size (.cells #[.string t, .string t2] 56))
      have HOA : Hid (∀ v, OwnBl wr w.heap.size v (pruneTo g k) → OwnBl (wr.alloc (.cells #[.string t, .string t2] 56)) w.heap.size v (pruneTo g k)) := fun v h => h.alloc _
      subst hA
      clear he he2 hc htc hz
      have hca := Blk.new wr 56 #[.string t, .string t2]
      have hsz1 : wr.heap.size < (wr.alloc (.cells #[.string t, .string t2] 56)).heap.size := by simp
      by_cases hin : k ∈ reachS g
      · have q2 : 0 ≤ z := hidx.2 hin
        have HPT := Lib.hid (show pruneTo g (k + 1) = pruneTo g k ++ [(t, t2)] by rw [pruneTo_yes hlt hin, HE.out, HE2.out])
        have hpl := pruneTo_length g k
        clear hidx hin
        go_wp2_with fail
        refine (HFC.out _).mono ?_
        rintro e w4 ⟨rfl, rfl⟩
        obtain ⟨wa, hwa⟩ : ∃ wa, wa = wr.alloc (.cells #[.string t, .string t2] 56) := ⟨_, rfl⟩
        rw [← hwa] at HBA HOA hca hsz1 ⊢
        have HOB := Lib.hid ((HOA.out _ HOW.out).alloc (.cells #[.string t, .string t2] 56))
        have hbs := HBA.out.size
        have x0 := hca.cell 0
        have x1 := hca.cell 1
        clear hwa hca HOA
        go_wp2_with (at_builtin; refine wpList_append_own _ rfl _ _ 26 rfl w.heap.size 56 i0 _ 2 32 Tryz.underlying26 hi hz0 hz1 hz2 rfl (by decide) _ _ _ rfl HOB.out ⟨wa.heap.size, 0, none⟩ 1 1 [.string t, .string t2] rfl rfl ?d1 ?d2 ?d3 ?d4 ?d5 ?_)
        case d1 => exact World.news_of_block (cs := #[.string t, .string t2]) (t := 56) (fr := (0, 0)) (heap_alloc_new wa _)
        case d2 => simp [Value.oneCell']
        case d3 => unfold maxLen; omega
        case d4 => omega
        case d5 => simp; omega
        intro v9 w9 hown9 hgrow9 _
        have hrow := HOB.out.lt
        have HB9 := Lib.hid (below_grown' (HBA.out.alloc hbs (.cells #[.string t, .string t2] 56)) hgrow9 (by simp; omega) (fun j hj => (hrow j hj).1))
        have HV9 : Hid (OwnBl w9 w.heap.size v9 (pruneTo g (k + 1))) := by
          rw [HPT.out]
          show w9.ownsRow w.heap.size 56 2 v9 (pruneTo g k ++ [(t, t2)]).length (cells2 (pruneTo g k ++ [(t, t2)]))
          rw [List.length_append, cells2_append]
          exact hown9
        clear hown9 hgrow9 hrow
        go_wp2_with fail
        go_roundw
        case rel => exact ⟨k + 1, by omega, by go_num, HV9, HB9.out⟩
        case measure => simp [intOf]; omega
      · have q2 : ¬ 0 ≤ z := fun h => hin (hidx.1 h)
        have HPT := Lib.hid (pruneTo_no (g := g) hin)
        clear hidx hin hca hsz1
        go_wp2_with fail
        refine (HFC.out _).mono ?_
        rintro e w4 ⟨rfl, rfl⟩
        go_wp2_with fail
        go_roundw
        case rel => exact ⟨k + 1, by omega, by go_num, by rw [HPT.out]; exact HOA.out _ HOW.out, HBA.out⟩
        case measure => simp [intOf]; omega
    · have hke : k = g.length := by omega
      have HF := Lib.hid (show OwnBl wr w.heap.size _ (pruneG g) by rw [← pruneTo_all HV.out, ← hke]; exact HOW.out)
      have HB := Lib.hid hB
      clear hke hB
      go_wp2_with fail
      exact bodyPost_ret (by simp [results, Tryz.results49, go_sem]) rfl ⟨_, rfl, HF.out, HB.out⟩

set_option maxRecDepth 100000 in
theorem specPrune_no (A : Option Addr) (cap : Nat) (g : List Bl) (w : World) (hg : Gr w A g) (hn : g.length + tot g ≤ 1048576) (hcap : g.length ≤ cap) (hv : validB g = false) :
    Calls Tryz.prog 49 #[.slice A g.length cap] w (PruneOwn [] false w) := by
  have HVC := Lib.hid (fun w (h : Gr w A g) => (hv ▸ specValid_any A cap g w h hn hcap : Calls Tryz.prog 51 #[.slice A g.length cap] w fun e w' => e = .returned (.bool false) ∧ Below w.heap.size w w'))
  have HG := Lib.hid hg
  have HA0 := Lib.hid (World.ownsRow_made (base := w.heap.size) (e := 56) (size := 2) w #[] 0 (Nat.le_refl _) (Nat.zero_le _) rfl)
  have HB0 : Hid (Below w.heap.size w (w.alloc (.cells #[] 56))) := (Below.refl _ _).alloc (Nat.le_refl _) _
  clear hv hg
  go_enter Tryz.func49, Tryz.ntmps49
  go_wp2_with fail
  refine (HVC.out _ (HG.out.below HB0.out)).mono ?_
  rintro e w1 ⟨rfl, b1⟩
  have HO1 : Hid (OwnBl w1 w.heap.size (.slice (some ⟨w.heap.size, 0, none⟩) 0 0) []) := by
    have h := HA0.out
    exact ownRow_below h b1
  have HB1 := Lib.hid (HB0.out.trans (b1.mono HB0.out.size))
  clear b1
  go_wp2_with fail
  exact bodyPost_ret (by simp [results, Tryz.results49, go_sem]) rfl ⟨_, rfl, HO1.out, HB1.out⟩
end Go.Proofs.YtdolbmonmkjajaaGreat
