/-
  Contract of the program's DominatorTree: the tree is written into a builder.
-/
import Derived.Test.YtklnhbfpmmdhjabGreatDominatorsOf
import Derived.Test.YtklnhbfpmmdhjabGreatSpecTree
namespace Go.Proofs.YtklnhbfpmmdhjabGreat
open Go.RowKit Go.Sort Go.Shelf

/-- Rows of nodes are as they were. -/
def NKeep (w w' : World) : Prop := w.heap.size ≤ w'.heap.size ∧ ∀ k cs, Blk w k 61 cs → Blk w' k 61 cs

theorem NKeep.refl (w : World) : NKeep w w := ⟨Nat.le_refl _, fun _ _ h => h⟩
theorem NKeep.trans {a b c : World} (h : NKeep a b) (k : NKeep b c) : NKeep a c := ⟨Nat.le_trans h.1 k.1, fun i cs hi => k.2 i cs (h.2 i cs hi)⟩
theorem NKeep.of_below {w w' : World} (h : Below w.heap.size w w') : NKeep w w' := ⟨h.size, fun k _ hk => (h.block k hk.lt).trans hk⟩
theorem blk_type {w : World} {k : Nat} {t t' : TypeId} {cs cs' : Array Value} (h : Blk w k t cs) (h' : Blk w k t' cs') : t = t' := by
  unfold Blk at h h'
  rw [h] at h'
  injection h' with h1
  injection h1 with _ h2 _
theorem NKeep.setCell {w : World} {b i : Nat} {t : TypeId} {cs : Array Value} (hb : Blk w b t cs) (ht : t ≠ 61) (u : Value) : NKeep w (w.setCell ⟨b, i, none⟩ u) :=
  ⟨by simp, fun k cs2 hk => (Below.heap_setCell w ⟨b, i, none⟩ u k (fun e => by
      have e' : k = b := e
      subst e'
      exact ht (blk_type hb hk))).trans hk⟩
theorem NKeep.grown {w w' : World} {B : Nat} {e : TypeId} {v : Value} {n : Nat} {xs : List Value} (hown : w.ownsRow B e 1 v n xs) (he : e ≠ 61) (hg : w.grownBy w' v.ownBlock) : NKeep w w' :=
  ⟨hg.size, fun k cs hk => (hg.block k hk.lt (fun e2 => by
      rcases hown.2 with ⟨rfl, _⟩ | ⟨gb, cap, cur, rfl, _, hgb, _⟩
      · cases e2
      · simp only [Value.ownBlock, Option.some.injEq] at e2
        exact he (blk_type (show Blk w k e cur from e2 ▸ hgb) hk))).trans hk⟩

theorem Bd.below {B b : Nat} {bs : List Value} {w w' : World} (h : Bd B b bs w) (hb : Below w.heap.size w w') : Bd B b bs w' := by
  have key : ∀ p, Lib.BuilderAt 92 5 B b p bs w → Lib.BuilderAt 92 5 B b p bs w' := by
    rintro p ⟨h1, v, h2, h3, h4⟩
    have hlt := Lib.BuilderAt.lt (show Lib.BuilderAt 92 5 B b p bs w from ⟨h1, v, h2, h3, h4⟩)
    exact ⟨h1, v, (hb.block b hlt).trans h2, own_below h3 hb, h4⟩
  rcases h with h | h
  · exact .inl (key _ h)
  · exact .inr (key _ h)

theorem copyCheck2_any (B b : Nat) (bs : List Value) (w : World) (h : Bd B b bs w) :
    Calls Tryz.prog 159 #[.pointer (some ⟨b, 0, none⟩)] w fun e w' => e = .returned (.tuple #[]) ∧ Lib.BuilderAt 92 5 B b (.pointer (some ⟨b, 0, none⟩)) bs w' ∧ Below B w w' ∧ NKeep w w' := by
  rcases h with h | h
  · refine (copyCheck_fresh b w h.cell0 h.shape h.frozen0).mono ?_
    rintro e w' ⟨rfl, rfl⟩
    have h' := h
    obtain ⟨_, v, hb, _⟩ := h'
    exact ⟨rfl, h.used _, (Below.refl B w).setCell (p := ⟨b, 0, none⟩) h.1 _, NKeep.setCell (t := 92) hb (by decide) _⟩
  · refine (copyCheck_used b w h.cell0).mono ?_
    rintro e w' ⟨rfl, rfl⟩
    exact ⟨rfl, h, Below.refl B _, NKeep.refl _⟩

set_option maxHeartbeats 800000 in
set_option maxRecDepth 100000 in
theorem write2_any (B b : Nat) (bs : List Value) (s : ByteArray) (w : World) (h : Bd B b bs w) (hlen : bs.length + s.size ≤ 1048576) (hBw : B ≤ w.heap.size) :
    Calls Tryz.prog 127 #[.pointer (some ⟨b, 0, none⟩), .string s] w fun e w' => e = .returned (.tuple #[.int .i64 s.size, .nilIface]) ∧ Bd B b (bs ++ Lib.strCells s) w' ∧ Below B w w' ∧ NKeep w w' := by
  obtain ⟨i0, hi, hz0, hz1, hz2⟩ := info_parts info_byte
  go_enter Tryz.func127, Tryz.ntmps127
  go_wp2_with fail
  refine (copyCheck2_any B b bs _ h).mono ?_
  rintro e w1 ⟨rfl, ⟨hB, v, hbk, hown, hne⟩, hb1, hk1⟩
  have hblk : Blk w1 b 92 #[.pointer (some ⟨b, 0, none⟩), v] := hbk
  have c1 := hblk.cell 1
  have hw1 := hb1.size
  go_wp2_with (at_builtin; refine Lib.wpList_append_own_string _ rfl _ _ 22 9 rfl B 5 i0 Tryz.underlying22 Tryz.underlying9 hi hz0 hz1 hz2 _ _ _ rfl hown s rfl ?c3 ?c4 ?c5 ?_)
  case c3 => unfold maxLen; omega
  case c4 => omega
  case c5 => omega
  intro v' w2 hown' hgrow _
  have hblk2 : Blk w2 b 92 #[.pointer (some ⟨b, 0, none⟩), v] := (hgrow.block b hblk.lt (fun e => hne e.symm)).trans hblk
  have hk2 := hk1.trans ((NKeep.grown hown (by decide) hgrow).trans (NKeep.setCell (i := 1) hblk2 (by decide) v'))
  have d1 := hblk2.cell 1
  have f1 := hblk2.frozen 1
  obtain ⟨ao, n', cap, rfl⟩ : ∃ ao n' cap, v' = .slice ao n' cap := by
    rcases hown'.2 with ⟨hv, _⟩ | ⟨g, cap, cur, hv, _⟩
    · exact ⟨_, _, _, hv⟩
    · exact ⟨_, _, _, hv⟩
  have HK2 := Lib.hid hk2
  clear hk2 hk1
  go_wp2
  go_ret2
  refine ⟨rfl, Or.inr (Lib.BuilderAt.put (T := 92) (e := 5) hB hblk2 (bs' := bs ++ Lib.strCells s) (by simpa [Lib.strCells_length] using hown') (by decide)), ?_, HK2.out⟩
  exact (hb1.grown hgrow (by omega) (fun k hk => (hown.lt k hk).1)).setCell (p := ⟨b, 1, none⟩) hB _

/-- A row of nodes. -/
def KidRow (w : World) (A : Option Addr) (NB : Nat) (L : List Nat) : Prop := 0 < L.length → ∃ c cs, A = some ⟨c, 0, none⟩ ∧ Blk w c 61 cs ∧ ∀ k (h : k < L.length), cs[k]? = some (nptr NB L[k])
theorem KidRow.keep {w w' : World} {A : Option Addr} {NB : Nat} {L : List Nat} (h : KidRow w A NB L) (hk : NKeep w w') : KidRow w' A NB L := fun hl => by
  obtain ⟨c, cs, e, hb, hc⟩ := h hl
  exact ⟨c, cs, e, hk.2 c cs hb, hc⟩
theorem kidRow_own {w : World} {base NB : Nat} {v : Value} {P : List Nat} (h : w.ownsRow base 61 1 v P.length (P.map (nptr NB))) : ∃ A cap, v = .slice A P.length cap ∧ KidRow w A NB P := by
  rcases h.2 with ⟨rfl, hn⟩ | ⟨gb, cap, cur, hv, hb, hg, _⟩
  · exact ⟨none, 0, by rw [hn], fun hpos => absurd hpos (by omega)⟩
  · subst hv
    refine ⟨_, _, rfl, fun _ => ⟨gb, cur, rfl, hg, fun j hj => ?_⟩⟩
    have hc := h.cellAt j (by omega)
    rw [List.getElem?_map, List.getElem?_eq_getElem hj] at hc
    rw [← (show Blk w gb 61 cur from hg).cell j]; exact hc

def sepT (k : Nat) : ByteArray := if k = 0 then ⟨#[40]⟩ else ⟨#[44]⟩
theorem sepT_size (k : Nat) : (sepT k).size = 1 := by unfold sepT; split <;> rfl
/-- What is written when the first k children are. -/
def preT (f : Nat → ByteArray) (l : List Nat) (k : Nat) : ByteArray := if k = 0 then ⟨#[]⟩ else ⟨#[40]⟩ ++ innerT f (l.take k)
theorem preT_next (f : Nat → ByteArray) {l : List Nat} {k : Nat} (h : k < l.length) : preT f l (k + 1) = preT f l k ++ (sepT k ++ f l[k]) := by
  unfold preT sepT
  rw [if_neg (by omega), inner_next f h]
  by_cases e : k = 0
  · rw [if_pos e, if_pos e, if_pos e, ba_empty_append]
  · rw [if_neg e, if_neg e, if_neg e]
    simp only [ba_append_assoc]
theorem preT_size (f : Nat → ByteArray) (l : List Nat) (k : Nat) : (preT f l k).size ≤ 1 + (innerT f l).size := by
  unfold preT
  split
  · show (⟨#[]⟩ : ByteArray).size ≤ _
    have : (⟨#[]⟩ : ByteArray).size = 0 := rfl
    omega
  · rw [ByteArray.size_append]
    have h1 : (⟨#[40]⟩ : ByteArray).size = 1 := rfl
    have := innerT_take (f := f) l k
    omega
theorem preT_all (f : Nat → ByteArray) {l : List Nat} (h : l ≠ []) : preT f l l.length = ⟨#[40]⟩ ++ innerT f l := by
  unfold preT
  rw [if_neg (fun e => h (List.eq_nil_of_length_eq_zero e)), List.take_length]

set_option maxRecDepth 100000 in
set_option maxHeartbeats 2000000 in
theorem writeTree_any (w0 : World) (tb NB : Nat) (g : List Bl) (B off cap : Nat) (S : Nat → Nat) (bb : Nat) (hv : validB g = true) (h0 : TreeAt w0 tb NB g B off cap S) : ∀ (m n : Nat) (bs : ByteArray) (w : World), Below w0.heap.size w0 w → Bd w0.heap.size bb (Lib.strCells bs) w →
    Rch g [] n → g.length < m + (domL g n).length → bs.size + (treeT g m n).size ≤ 1000 →
    Calls Tryz.prog 95 #[.pointer (some ⟨tb, 0, none⟩), .pointer (some ⟨bb, 0, none⟩), nptr NB n] w fun e w' => e = .returned (.tuple #[]) ∧ Bd w0.heap.size bb (Lib.strCells (bs ++ treeT g m n)) w' ∧ Below w0.heap.size w w' ∧ NKeep w w'
  | 0, n, bs, w, _, _, _, hm, _ => by
    have := domL_len hv n
    omega
  | m + 1, n, bs, w, hB, hbd, hr, hm, hsz => by
    have ih := writeTree_any w0 tb NB g B off cap S bb hv h0 m
    have hnl := hr.lt hv
    have hTw := h0.below hB
    have x1 : w.cell? ⟨nb NB n, 1, none⟩ = some (.string (nthName g n)) := by have := (hTw.nodes n hnl).cell 1; rw [nthName_at hnl]; simpa using this
    obtain ⟨nm, hnm⟩ : ∃ nm, nm = nthName g n := ⟨_, rfl⟩
    rw [← hnm] at x1
    have hn1 : nm.size = 1 := by rw [hnm]; exact one_size hv hnl
    have hs0 := hB.size
    have hW1 := write2_any w0.heap.size bb (Lib.strCells bs) nm w hbd (by rw [Lib.strCells_length]; omega) hs0
    rw [← cells_append] at hW1
    have HW1 := Lib.hid hW1
    have HB := Lib.hid hB
    have H0 := Lib.hid h0
    have HV := Lib.hid hv
    have HNM := Lib.hid hnm
    have HIH := Lib.hid ih
    have HM := Lib.hid hm
    clear hTw hbd hnm hB h0 hv ih hm hW1 hr
    have hkl := kids_lt HV.out (n := n)
    have hkn := kids_len HV.out n
    by_cases hk0 : kidsL g n = []
    · have HR := Lib.hid (show bs ++ nm = bs ++ treeT g (m + 1) n by rw [treeT_leaf hk0, HNM.out])
      have HK0 := Lib.hid hk0
      clear hkl hkn hk0 hsz
      go_enter Tryz.func95, Tryz.ntmps95
      go_wp2_with fail
      refine HW1.out.mono ?_
      rintro e w1 ⟨rfl, hbd1, hb1, hk1⟩
      have HBD1 := Lib.hid hbd1
      have HB1 := Lib.hid hb1
      have HK1 := Lib.hid hk1
      have hC := childrenOf_own tb NB g B off cap S n w1 HV.out (H0.out.below (HB.out.trans hb1)) hnl
      rw [HK0.out] at hC
      have HC := Lib.hid hC
      clear hbd1 hb1 hk1 hC
      go_wp2_with fail
      refine HC.out.mono ?_
      rintro e w2 ⟨v, rfl, hown, hb2⟩
      obtain ⟨A2, c2, rfl, _⟩ := kidRow_own hown
      have HB2 := Lib.hid hb2
      clear hown hb2
      go_wp2_with fail
      refine bodyPost_ret (results_none rfl _ _ _) rfl ?_
      refine ⟨rfl, ?_, HB1.out.trans (HB2.out.mono (by have := HB1.out.size; omega)), HK1.out.trans (NKeep.of_below HB2.out)⟩
      rw [← HR.out]
      exact HBD1.out.below HB2.out
    · have HT := Lib.hid (treeT_kids (m := m) hk0)
      have hts : (treeT g (m + 1) n).size = nm.size + (1 + ((innerT (treeT g m) (kidsL g n)).size + 1)) := by
        rw [HT.out, ByteArray.size_append, ByteArray.size_append, ByteArray.size_append, HNM.out]; rfl
      rw [hts] at hsz
      have HK0 := Lib.hid hk0
      have HKL := Lib.hid hkl
      have hpos : 0 < (kidsL g n).length := List.length_pos_iff.2 hk0
      have q0 : ¬ (((kidsL g n).length : Int) = 0) := by omega
      have q1 : (((kidsL g n).length : Int) == 0) = false := by simpa using q0
      clear hkl hk0 hts q0
      go_enter Tryz.func95, Tryz.ntmps95
      go_wp2_with fail
      refine HW1.out.mono ?_
      rintro e w1 ⟨rfl, hbd1, hb1, hk1⟩
      have HBD1 := Lib.hid hbd1
      have HB1 := Lib.hid hb1
      have HK1 := Lib.hid hk1
      have HC := Lib.hid (childrenOf_own tb NB g B off cap S n w1 HV.out (H0.out.below (HB.out.trans hb1)) hnl)
      clear hbd1 hb1 hk1
      go_wp2_with fail
      refine HC.out.mono ?_
      rintro e w2 ⟨v, rfl, hown, hb2⟩
      obtain ⟨A2, c2, rfl, hrow⟩ := kidRow_own hown
      have HROW := Lib.hid hrow
      have HB2 := Lib.hid (HB1.out.trans (hb2.mono (by have := HB1.out.size; omega)))
      have HK2 := Lib.hid (HK1.out.trans (NKeep.of_below hb2))
      have HBD2 := Lib.hid (HBD1.out.below hb2)
      clear hown hb2 hrow
      go_wp2_with fail
      go_loopw [7, 24] (fun sv iv wr => ∃ (k : Nat), k ≤ (kidsL g n).length ∧ iv = .int .i64 k ∧ sv = .string (sepT k) ∧ Bd w0.heap.size bb (Lib.strCells (bs ++ nm ++ preT (treeT g m) (kidsL g n) k)) wr ∧ Below w0.heap.size w wr ∧ NKeep w2 wr ∧ NKeep w wr) (fun _ iv _ => (kidsL g n).length - (intOf iv).toNat)
      case atStart => exact ⟨0, Nat.zero_le _, rfl, rfl, by rw [show preT (treeT g m) (kidsL g n) 0 = ⟨#[]⟩ from rfl, ba_append_empty]; exact HBD2.out, HB2.out, NKeep.refl _, HK2.out⟩
      case round =>
        obtain ⟨k, hk, rfl, rfl, hbd, hB3, hk3, hk4⟩ := hrel
        have hs3 := hB3.size
        have hps := preT_size (treeT g m) (kidsL g n) k
        have hls : (bs ++ nm ++ preT (treeT g m) (kidsL g n) k).size = bs.size + nm.size + (preT (treeT g m) (kidsL g n) k).size := by rw [ByteArray.size_append, ByteArray.size_append]
        obtain ⟨cur, hcur⟩ : ∃ cur, cur = bs ++ nm ++ preT (treeT g m) (kidsL g n) k := ⟨_, rfl⟩
        rw [← hcur] at hbd hls
        have HB3 := Lib.hid hB3
        have HK3 := Lib.hid hk3
        have HK4 := Lib.hid hk4
        have HCUR := Lib.hid hcur
        by_cases hlt : k < (kidsL g n).length
        · obtain ⟨x, hx⟩ : ∃ x, x = (kidsL g n)[k] := ⟨_, rfl⟩
          have hxm : x ∈ kidsL g n := hx ▸ List.getElem_mem hlt
          have hxr := ((mem_kids HV.out).1 hxm).1
          obtain ⟨c, cs, rfl, hblk, hcell⟩ := (HROW.out.keep hk3) hpos
          have c0 : wr.cell? ⟨c, k, none⟩ = some (nptr NB x) := by rw [hblk.cell, hcell k hlt, hx]
          have hss := sepT_size k
          have hW2 := write2_any w0.heap.size bb (Lib.strCells cur) (sepT k) wr hbd (by rw [Lib.strCells_length]; omega) (by omega)
          rw [← cells_append] at hW2
          have HW2 := Lib.hid hW2
          have hpn := preT_size (treeT g m) (kidsL g n) (k + 1)
          have HNX := Lib.hid (preT_next (treeT g m) hlt)
          have hsn := congrArg ByteArray.size HNX.out
          rw [← hx, ByteArray.size_append, ByteArray.size_append] at hsn
          have hfu : g.length < m + (domL g x).length := by rw [kids_line HV.out hxm]; have := HM.out; omega
          have hcs : (cur ++ sepT k).size + (treeT g m x).size ≤ 1000 := by rw [ByteArray.size_append]; omega
          have HIX := Lib.hid (fun W h1 h2 => HIH.out x (cur ++ sepT k) W h1 h2 hxr hfu hcs)
          have HE := Lib.hid (show cur ++ sepT k ++ treeT g m x = bs ++ nm ++ preT (treeT g m) (kidsL g n) (k + 1) by
            rw [HNX.out, HCUR.out, ← hx]; simp only [ba_append_assoc])
          clear hbd hB3 hk3 hk4 hcur hx hxm hxr hblk hcell hW2 hpn hsn hfu hcs hls hps hss
          go_wp2_with fail
          refine HW2.out.mono ?_
          rintro e w3 ⟨rfl, hbd3, hb3, hk5⟩
          have HIX2 := Lib.hid (HIX.out w3 (HB.out.trans (HB3.out.trans hb3)) hbd3)
          have HB4 := Lib.hid (HB3.out.trans hb3)
          have HK5 := Lib.hid hk5
          clear hbd3 hb3 hk5
          go_wp2_with fail
          refine HIX2.out.mono ?_
          rintro e w4 ⟨rfl, hbd4, hb4, hk6⟩
          rw [HE.out] at hbd4
          have HBD4 := Lib.hid hbd4
          have HB5 := Lib.hid (HB4.out.trans hb4)
          have HK6 := Lib.hid (HK5.out.trans hk6)
          clear hbd4 hb4 hk6
          go_wp2_with fail
          go_roundw
          case rel => exact ⟨k + 1, by omega, by go_num, rfl, HBD4.out, HB5.out, HK3.out.trans HK6.out, HK4.out.trans HK6.out⟩
          case measure => simp [intOf]; omega
        · have e1 : (⟨#[41]⟩ : ByteArray).size = 1 := rfl
          have hW2 := write2_any w0.heap.size bb (Lib.strCells cur) ⟨#[41]⟩ wr hbd (by rw [Lib.strCells_length]; omega) (by omega)
          rw [← cells_append] at hW2
          have HW2 := Lib.hid hW2
          have HE := Lib.hid (show cur ++ (⟨#[41]⟩ : ByteArray) = bs ++ treeT g (m + 1) n by
            rw [HCUR.out, HT.out, show k = (kidsL g n).length by omega, preT_all _ HK0.out, HNM.out]; simp only [ba_append_assoc])
          clear hbd hB3 hk3 hk4 hcur hW2 hls hps e1
          go_wp2_with fail
          refine HW2.out.mono ?_
          rintro e w3 ⟨rfl, hbd3, hb3, hk5⟩
          rw [HE.out] at hbd3
          have HBD3 := Lib.hid hbd3
          have HB4 := Lib.hid (HB3.out.trans hb3)
          have HK5 := Lib.hid (HK4.out.trans hk5)
          clear hbd3 hb3 hk5
          go_wp2_with fail
          go_end0
          exact ⟨rfl, HBD3.out, HB4.out, HK5.out⟩

set_option maxRecDepth 100000 in
set_option maxHeartbeats 1000000 in
theorem implTree_any (A : Option Addr) (cap : Nat) (g : List Bl) (w : World) (hg : Gr w A g) (hn : g.length + tot g ≤ 1048576) :
    Calls Tryz.prog 37 #[.slice A g.length cap] w fun e w' => e = .returned (.tuple #[.string (treeV g), .bool (validB g)]) ∧ Below w.heap.size w w' := by
  cases hv : validB g with
  | false =>
    have HC := Lib.hid (treeOf_no A cap g w hg hn hv)
    have H1 := Lib.hid (treeV_no hv)
    clear hv
    go_enter Tryz.func37, Tryz.ntmps37
    go_wp2_with fail
    refine HC.out.mono ?_
    rintro e w1 ⟨tb, rfl, hT, b1⟩
    clear hT
    go_wp2_with fail
    go_ret2
    exact ⟨ret_sb H1.out.symm rfl, b1⟩
  | true =>
    have HC := Lib.hid (treeOf_yes A cap g w hg hn hv)
    have HV := Lib.hid hv
    have H1 := Lib.hid (treeV_yes hv)
    have h0 : Rch g [] 0 := .start (by simp)
    have h0r : (reachS g)[0]? = some 0 := by
      have hm : 0 ∈ reachS g := (mem_reachS' hv).2 h0
      obtain ⟨k, hk, e⟩ := List.getElem_of_mem hm
      rcases Nat.eq_zero_or_pos k with rfl | hk0
      · rw [List.getElem?_eq_getElem hk, e]
      · have := List.pairwise_iff_getElem.1 (reachS_up g) 0 k (by omega) hk hk0
        omega
    obtain ⟨hpos, e0⟩ := List.getElem?_eq_some_iff.1 h0r
    have HE0 := Lib.hid e0
    have HR0 := Lib.hid h0
    have hsm := treeT_small hv (m := g.length) h0
    obtain ⟨tt, htt⟩ : ∃ tt, tt = treeT g g.length 0 := ⟨_, rfl⟩
    rw [← htt] at hsm H1
    have HTT := Lib.hid htt
    clear hv h0 h0r e0 htt
    go_enter Tryz.func37, Tryz.ntmps37
    go_wp2_with fail
    refine HC.out.mono ?_
    rintro e w1 ⟨tb, NB, B, off, c1, S, _, rfl, hT, b1⟩
    obtain ⟨w2, hw2⟩ : ∃ w2, w2 = w1.alloc (.cells #[.pointer none, .slice none 0 0] 92) := ⟨_, rfl⟩
    have hb2 : Below w1.heap.size w1 w2 := by rw [hw2]; exact (Below.refl _ _).alloc (Nat.le_refl _) _
    have hbd2 : Bd w1.heap.size w1.heap.size (Lib.strCells ⟨#[]⟩) w2 := by rw [hw2]; exact bd_new w1
    have hT2 := hT.below hb2
    have cN := hT2.tree.nodes
    have c0 : w2.cell? ⟨B, off, none⟩ = some (nptr NB 0) := by have := hT2.row 0 hpos; rw [HE0.out] at this; simpa using this
    have HWT := Lib.hid (writeTree_any w1 tb NB g B off c1 S w1.heap.size HV.out hT g.length 0 ⟨#[]⟩ w2 hb2 hbd2 HR0.out (by rw [domL_entry HV.out]; simp) (by rw [← HTT.out]; have : (⟨#[]⟩ : ByteArray).size = 0 := rfl; omega))
    have HB1 := Lib.hid b1
    have HB2 := Lib.hid hb2
    rw [hw2] at cN c0 HWT
    have HW2 := Lib.hid hw2
    have hpi : (0 : Int) < ((reachS g).length : Int) := by omega
    clear hT hT2 hb2 hbd2 b1 hw2
    go_wp2_with fail
    refine HWT.out.mono ?_
    rintro e w3 ⟨rfl, hbd3, hb3, _⟩
    rw [← HTT.out, ba_empty_append] at hbd3
    have HB3 := Lib.hid (HB2.out.trans (HW2.out ▸ hb3))
    have HS := Lib.hid (string_any w1.heap.size w1.heap.size tt w3 hbd3 (by have := hb3.size; simp at this; omega))
    clear hbd3 hb3
    go_wp2_with fail
    refine HS.out.mono ?_
    rintro e w4 ⟨rfl, b4⟩
    go_wp2_with fail
    go_ret2
    exact ⟨ret_sb H1.out.symm rfl, below_trans_self HB1.out (HB3.out.trans b4)⟩
end Go.Proofs.YtklnhbfpmmdhjabGreat
