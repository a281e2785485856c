/-
  Contracts of the model: going through a graph, the way order, what dominates a block, its parent.
-/
import Derived.Test.YtdolbmonmkjajaaDfs
import Derived.Test.YtdolbmonmkjajaaDomSpec
namespace Go.Proofs.Ytdolbmonmkjajaa
open Go.RowKit Go.Sort

theorem ret_ss {a a' b b' : ByteArray} (h1 : a = a') (h2 : b = b') : Ending.returned (.tuple #[.string a, .string b]) = .returned (.tuple #[.string a', .string b']) := by rw [h1, h2]

theorem drop_back (l : List Nat) (k : Nat) (hk : k < l.length) : (l.drop k).reverse = (l.drop (k + 1)).reverse ++ [l[k]] := by
  rw [List.drop_eq_getElem_cons hk, List.reverse_cons]

theorem Gone.refl {g : List Bl} {s d : List Nat} (h : Seen g s) (hd : ∀ x ∈ d, x < g.length) (hl : d.length ≤ s.length) : Gone g s d s d := ⟨h, List.prefix_refl _, hd, hl⟩
theorem Gone.trans {g : List Bl} {s d s1 d1 s2 d2 : List Nat} (h : Gone g s d s1 d1) (k : Gone g s1 d1 s2 d2) : Gone g s d s2 d2 := ⟨k.ok, h.pre.trans k.pre, k.lt, k.len⟩

set_option maxRecDepth 100000 in
set_option maxHeartbeats 2000000 in
theorem l4Visit_any (A : Option Addr) (cap : Nat) (g : List Bl) (hn : g.length ≤ 1048576) (hv : validB g = true) : ∀ (m i : Nat) (s d : List Nat) (nm ss ds : ByteArray) (w : World), Gr w A g → i ∉ s → Rch g [] i → Seen g s → g.length ≤ m + s.length → (∀ x ∈ d, x < g.length) → d.length ≤ s.length →
    nm = nthName g i → ss = namesAt g s → ds = namesAt g d →
    Calls Try.prog 68 #[.slice A g.length cap, .string nm, .string ss, .string ds] w fun e w' =>
      e = .returned (.tuple #[.string (namesAt g (visit (nxt g) m i (s, d)).1), .string (namesAt g (visit (nxt g) m i (s, d)).2)]) ∧ Below w.heap.size w w'
  | 0, i, s, d, nm, ss, ds, w, _, hi, hr, hs, hm, _, _, _, _, _ => by
    have := (hs.snoc (hr.lt hv) hi).len
    simp at this; omega
  | m + 1, i, s, d, nm, ss, ds, w, hg, hi, hr, hs, hm, hd, hl, hnm, hss, hds => by
    have ih := l4Visit_any A cap g hn hv m
    have hil := hr.lt hv
    have h26 := (valid_iff.1 hv).2.1
    have hs1 := hs.snoc hil hi
    have hsl := hs1.len
    have hn1 : nm.size = 1 := by rw [hnm]; exact one_size hv hil
    have hsz : ss.size = s.length := by rw [hss]; exact namesAt_size hv _ hs.lt
    have hz1 : ss.size + nm.size ≤ 1048576 := by simp at hsl; omega
    have HN := Lib.hid (l1Next_any A cap g nm i w hg hn (by rw [hnm, nthName_at hil]; exact posOf_name hv hil) hil)
    have HS1 := Lib.hid (show ss ++ nm = namesAt g (s ++ [i]) by rw [namesAt_append, namesAt_one, hss, hnm])
    have HDS := Lib.hid hds
    have HGO := Lib.hid (Gone.refl hs1 hd (by simp; omega))
    have HNM := Lib.hid hnm
    obtain ⟨nx, hnx⟩ : ∃ nx, nx = g[i].2 := ⟨_, rfl⟩
    rw [← hnx] at HN
    have hnl : nx.size ≤ 2 := hnx ▸ nxt_two' hv hil
    have hnn : (nxt g i).length = nx.size := by rw [nxt_length hil, hnx]
    have hw1 : wrap64 ((nx.size : Int) - 1) = (nx.size : Int) - 1 := by unfold wrap64; omega
    have HNX := Lib.hid hnx
    have HNN := Lib.hid hnn
    have HG := Lib.hid hg
    have HIH := Lib.hid ih
    have HV := Lib.hid hv
    have HR := Lib.hid hr
    have HM := Lib.hid hm
    clear hnx hnn hg ih hss hds hnm hi hs hs1 hd hl hm hsz hr hsl hv
    go_enter Try.func68, Try.ntmps68
    go_wp2_with fail
    refine HN.out.mono ?_
    rintro e w1 ⟨rfl, b1⟩
    have HB1 := Lib.hid b1
    clear b1
    go_wp2_with fail
    rw [HS1.out]
    go_loopw [2, 3, 11] (fun sv dv iv wr => ∃ (k : Nat) (s1 d1 : List Nat), k ≤ nx.size ∧ iv = .int .i64 ((k : Int) - 1) ∧ sv = .string (namesAt g s1) ∧ dv = .string (namesAt g d1) ∧
      Hid ((s1, d1) = visits (nxt g) m (s ++ [i], d) ((nxt g i).drop k).reverse) ∧ Hid (Gone g (s ++ [i]) d s1 d1) ∧ Below w.heap.size w wr) (fun _ _ iv _ => (intOf iv + 1).toNat)
    case atStart => exact ⟨nx.size, s ++ [i], d, Nat.le_refl _, rfl, rfl, by rw [HDS.out], by rw [List.drop_of_length_le (by rw [HNN.out]; exact Nat.le_refl _)]; rfl, HGO.out, HB1.out⟩
    case round =>
      obtain ⟨k, s1, d1, hk, rfl, rfl, rfl, HST, HG1, hB⟩ := hrel
      have HB := Lib.hid hB
      obtain ⟨p, hp⟩ : ∃ p, p = namesAt g s1 := ⟨_, rfl⟩
      obtain ⟨q, hq⟩ : ∃ q, q = namesAt g d1 := ⟨_, rfl⟩
      have hps : p.size = s1.length := by rw [hp]; exact namesAt_size HV.out _ HG1.out.ok.lt
      have hqs : q.size = d1.length := by rw [hq]; exact namesAt_size HV.out _ HG1.out.lt
      have hsl := HG1.out.ok.len
      have hdl := HG1.out.len
      rw [← hp, ← hq]
      have HP := Lib.hid hp
      have HQ := Lib.hid hq
      clear hB hp hq
      cases k with
      | zero =>
        rw [show (((0 : Nat) : Int) - 1) = -1 from rfl]
        have hz2 : nm.size + q.size ≤ 1048576 := by omega
        have HE := Lib.hid (show (s1, d1) = visits (nxt g) m (s ++ [i], d) (nxt g i).reverse by rw [HST.out]; rfl)
        have HE1 := Lib.hid (show p = namesAt g (visit (nxt g) (m + 1) i (s, d)).1 by rw [visit_succ, ← HE.out, HP.out])
        have HE2 := Lib.hid (show nm ++ q = namesAt g (visit (nxt g) (m + 1) i (s, d)).2 by rw [visit_succ, ← HE.out, HQ.out, HNM.out]; rfl)
        go_wp2_with fail
        go_ret2
        exact ⟨ret_ss HE1.out HE2.out, HB.out⟩
      | succ j =>
        rw [show (((j + 1 : Nat) : Int) - 1) = (j : Int) by omega]
        have hjn : j < nx.size := by omega
        obtain ⟨t, htl, hget, _, hnt⟩ := nxt_get HV.out (HR.out.lt HV.out) (k := j) (by rw [← HNX.out]; exact hjn)
        have hbyte : g[i].2[j]'(by rw [← HNX.out]; exact hjn) = nx[j] := by congr 1; exact HNX.out.symm
        rw [hbyte] at hnt
        have hjl : j < (nxt g i).length := by rw [HNN.out]; exact hjn
        have hte : (nxt g i)[j] = t := (List.getElem?_eq_some_iff.1 hget).2
        have htm : t ∈ nxt g i := hte ▸ List.getElem_mem hjl
        have hidx := idx_namesAt HV.out HG1.out.ok.lt htl hnt
        rw [← HP.out] at hidx
        have HEX := Lib.hid (show nx.extract j (j + 1) = nthName g t by rw [ex_byte nx (a := j) (b := j + 1) (by omega) (by omega) (by omega), nthName_at htl, hnt])
        obtain ⟨z, hz⟩ : ∃ z, z = Lib.indexByte p.data.toList nx[j] := ⟨_, rfl⟩
        have HFC : Hid (∀ w, Calls Try.prog 51 #[.string p, .int .u8 nx[j].toNat] w fun e w' => e = .returned (.int .i64 z) ∧ w = w') := fun w => by
          rw [hz]; exact find_any p nx[j] w (by omega)
        rw [← hz] at hidx
        have HSN := Lib.hid (show visits (nxt g) m (s ++ [i], d) ((nxt g i).drop j).reverse = if t ∈ s1 then (s1, d1) else visit (nxt g) m t (s1, d1) by
          rw [drop_back _ _ hjl, hte, visits_snoc, ← HST.out])
        have hj1 : j + 1 ≤ nx.size := by omega
        have hw2 : wrap64 ((j : Int) - 1) = (j : Int) - 1 := by unfold wrap64; omega
        have HTR := Lib.hid (Rch.step HR.out htm (by simp))
        clear hget hbyte hnt hte hz hjl htm
        by_cases hin : t ∈ s1
        · have q2 : ¬ z < 0 := by have := hidx.2 hin; omega
          rw [if_pos hin] at HSN
          clear hidx hin
          go_wp2_with fail
          refine (HFC.out _).mono ?_
          rintro e w4 ⟨rfl, rfl⟩
          go_wp2_with fail
          go_roundw
          case rel => exact ⟨j, s1, d1, by omega, rfl, by rw [HP.out], by rw [HQ.out], HSN.out.symm, HG1, HB.out⟩
          case measure => simp [intOf]
        · have q2 : z < 0 := by
            rcases Int.lt_or_le z 0 with h | h
            · exact h
            · exact absurd (hidx.1 h) hin
          rw [if_neg hin] at HSN
          have hfu : g.length ≤ m + s1.length := by
            have := HG1.out.pre.length_le; have := HM.out; simp at *; omega
          have HV1 := Lib.hid (visit_gone HV.out (d := d1) hin HTR.out HG1.out.ok hfu HG1.out.lt HG1.out.len)
          have HC := Lib.hid (fun W (hW : Gr W A g) => HIH.out t s1 d1 (nx.extract j (j + 1)) p q W hW hin HTR.out HG1.out.ok hfu HG1.out.lt HG1.out.len HEX.out HP.out HQ.out)
          obtain ⟨v, hvv⟩ : ∃ v, v = visit (nxt g) m t (s1, d1) := ⟨_, rfl⟩
          rw [← hvv] at HC HV1 HSN
          clear hidx hin hfu hvv
          go_wp2_with fail
          refine (HFC.out _).mono ?_
          rintro e w4 ⟨rfl, rfl⟩
          go_wp2_with fail
          refine (HC.out _ (HG.out.below HB.out)).mono ?_
          rintro e w5 ⟨rfl, b5⟩
          have HB5 := Lib.hid (below_trans_self HB.out b5)
          clear b5
          go_wp2_with fail
          go_roundw
          case rel => exact ⟨j, v.1, v.2, by omega, rfl, rfl, rfl, HSN.out.symm, HG1.out.trans HV1.out, HB5.out⟩
          case measure => simp [intOf]

set_option maxRecDepth 100000 in
theorem l4Order_any (A : Option Addr) (cap : Nat) (g : List Bl) (w : World) (hg : Gr w A g) (hn : g.length ≤ 1048576) (hv : validB g = true) :
    Calls Try.prog 43 #[.slice A g.length cap] w fun e w' => e = .returned (.string (namesAt g (wayOrd g))) ∧ Below w.heap.size w w' := by
  have hpos := (valid_iff.1 hv).1
  obtain ⟨b, off, t, t2, hA, hb, hc0, hc1, he, he2⟩ := gr_at hg hpos
  have hc0' : w.cell? ⟨b, off, none⟩ = some (.string t) := by simpa using hc0
  have H1 := Lib.hid (l4Visit_any A cap g hn hv g.length 0 [] [] t ⟨#[]⟩ ⟨#[]⟩ w hg (by simp) (.start (by simp)) ⟨.nil, by simp⟩ (by simp) (by simp) (by simp) (by rw [nthName_at hpos, he]) rfl rfl)
  clear hc0 hc1 he he2 hg hv hn
  subst hA
  go_enter Try.func43, Try.ntmps43
  go_wp2_with fail
  refine H1.out.mono ?_
  rintro e w1 ⟨rfl, b1⟩
  go_wp2_with fail
  go_ret
  exact ⟨rfl, b1⟩

theorem filter_take {p : Nat → Bool} {l : List Nat} {k : Nat} (h : k < l.length) : (l.take (k + 1)).filter p = (l.take k).filter p ++ (if p l[k] then [l[k]] else []) := by
  rw [List.take_succ_eq_append_getElem h, List.filter_append]
  congr 1
  cases hp : p l[k] <;> simp [hp]


/-- The name of the parent, or none. -/
def parS (g : List Bl) (n : Nat) : ByteArray := match parL g n with | some p => nthName g p | none => ⟨#[]⟩
theorem parS_some {g : List Bl} {n p : Nat} (h : parL g n = some p) : parS g n = nthName g p := by unfold parS; rw [h]
theorem parS_none {g : List Bl} {n : Nat} (h : parL g n = none) : parS g n = ⟨#[]⟩ := by unfold parS; rw [h]

end Go.Proofs.Ytdolbmonmkjajaa

/-
  Contracts of the model: DominatorsOf, ParentOf, ChildrenOf, Dominates.
-/
namespace Go.Proofs.Ytdolbmonmkjajaa
open Go.RowKit Go.Sort

theorem beq_emp {s : ByteArray} (h : 0 < s.size) : (s.toList == ([] : List UInt8)) = false := by
  have hl := list_of_size (s := s)
  rw [Lib.toList_data]
  cases hd : s.data.toList with
  | nil => rw [hd] at hl; simp at hl; omega
  | cons c r => rfl

def domV (g : List Bl) (s : ByteArray) : ByteArray := match liveOf g s with | some n => namesAt g (domL g n) | none => ⟨#[]⟩
def liveB (g : List Bl) (s : ByteArray) : Bool := (liveOf g s).isSome
theorem domV_some {g : List Bl} {s : ByteArray} {n : Nat} (h : liveOf g s = some n) : domV g s = namesAt g (domL g n) := by unfold domV; rw [h]
theorem domV_none {g : List Bl} {s : ByteArray} (h : liveOf g s = none) : domV g s = ⟨#[]⟩ := by unfold domV; rw [h]
theorem liveB_some {g : List Bl} {s : ByteArray} {n : Nat} (h : liveOf g s = some n) : liveB g s = true := by unfold liveB; rw [h]; rfl
theorem liveB_none {g : List Bl} {s : ByteArray} (h : liveOf g s = none) : liveB g s = false := by unfold liveB; rw [h]; rfl

/-- A live block's name. -/
theorem live_name {g : List Bl} {s : ByteArray} {n : Nat} (h : liveOf g s = some n) : validB g = true ∧ n < g.length ∧ s = nthName g n ∧ Rch g [] n := by
  obtain ⟨hv, hp, hr⟩ := liveOf_is h
  obtain ⟨hl, e⟩ := posOf_is hp
  exact ⟨hv, hl, by rw [nthName_at hl, e], (mem_reach hv).1 hr⟩


def parV (g : List Bl) (s : ByteArray) : ByteArray := match liveOf g s with | some n => parS g n | none => ⟨#[]⟩
def parO (g : List Bl) (s : ByteArray) : Bool := match liveOf g s with | some n => (parL g n).isSome | none => false


theorem parS_is {g : List Bl} (hv : validB g = true) {n c : Nat} (hn : n < g.length) (hc : Rch g [] c) : ((parS g c).toList == (nthName g n).toList) = decide (parL g c = some n) := by
  rw [Bool.eq_iff_iff, beq_toList, decide_eq_true_iff]
  cases hp : parL g c with
  | none =>
    rw [parS_none hp]
    constructor
    · intro e
      have := congrArg ByteArray.size e
      rw [one_size hv hn] at this; cases this
    · intro e; cases e
  | some p =>
    rw [parS_some hp]
    have hpl := ((parL_iff hv hc).1 hp).2.1.lt hv
    constructor
    · intro e
      rw [nthName_at hpl, nthName_at hn] at e
      rw [name_inj hv hpl hn e]
    · intro e; cases e; rfl

theorem kids_dm {g : List Bl} (hv : validB g = true) {n c : Nat} (hc : Rch g [] c) (h : dmB g n c = false) : decide (parL g c = some n) = false := by
  rw [decide_eq_false_iff_not]
  intro e
  have := ((parL_iff hv hc).1 e).2.2 n
  have h2 : dmB g n c = true := (dmB_iff hv).2 (this.2 (.inr (.refl g n)))
  rw [h] at h2; cases h2


def kidsV (g : List Bl) (s : ByteArray) : ByteArray := match liveOf g s with | some n => namesAt g (kidsL g n) | none => ⟨#[]⟩


def domB (g : List Bl) (s t : ByteArray) : Bool := match liveOf g s, liveOf g t with | some a, some b => dmB g a b | _, _ => false
theorem domB_none1 {g : List Bl} {s t : ByteArray} (h : liveOf g s = none) : domB g s t = false := by unfold domB; rw [h]
theorem domB_none2 {g : List Bl} {s t : ByteArray} (h : liveOf g t = none) : domB g s t = false := by unfold domB; rw [h]; split <;> simp_all
theorem domB_some {g : List Bl} {s t : ByteArray} {a b : Nat} (h : liveOf g s = some a) (k : liveOf g t = some b) : domB g s t = dmB g a b := by unfold domB; rw [h, k]

end Go.Proofs.Ytdolbmonmkjajaa

/-
  Plain facts for the laws on dominators.
-/
namespace Go.Proofs.Ytdolbmonmkjajaa

theorem domB_iff {g : List Bl} {s t : ByteArray} : domB g s t = true ↔ ∃ a b, liveOf g s = some a ∧ liveOf g t = some b ∧ Dm g a b := by
  cases ha : liveOf g s with
  | none => rw [domB_none1 ha]; simp
  | some a =>
    cases hb : liveOf g t with
    | none => rw [domB_none2 hb]; simp
    | some b =>
      rw [domB_some ha hb, dmB_iff (live_name ha).1]
      constructor
      · intro h; exact ⟨a, b, rfl, rfl, h⟩
      · rintro ⟨a', b', e1, e2, h⟩; cases e1; cases e2; exact h

theorem domB_anti {g : List Bl} {s t : ByteArray} (h : domB g s t = true) (k : domB g t s = true) : s = t := by
  obtain ⟨a, b, ha, hb, hd⟩ := domB_iff.1 h
  obtain ⟨b', a', hb', ha', hd'⟩ := domB_iff.1 k
  rw [ha] at ha'; cases ha'
  rw [hb] at hb'; cases hb'
  obtain ⟨_, _, e1, hr⟩ := live_name ha
  obtain ⟨_, _, e2, _⟩ := live_name hb
  rw [e1, e2, hd.antisymm hd' hr]

theorem domB_trans {g : List Bl} {s t u : ByteArray} (h : domB g s t = true) (k : domB g t u = true) : domB g s u = true := by
  obtain ⟨a, b, ha, hb, hd⟩ := domB_iff.1 h
  obtain ⟨b', c, hb', hc, hd'⟩ := domB_iff.1 k
  rw [hb] at hb'; cases hb'
  exact domB_iff.2 ⟨a, c, ha, hc, hd.trans hd'⟩

theorem domB_line {g : List Bl} {s t u : ByteArray} (h : domB g s u = true) (k : domB g t u = true) : domB g s t = true ∨ domB g t s = true := by
  obtain ⟨a, c, ha, hc, hd⟩ := domB_iff.1 h
  obtain ⟨b, c', hb, hc', hd'⟩ := domB_iff.1 k
  rw [hc] at hc'; cases hc'
  rcases hd.total hd' (live_name hc).2.2.2 with q | q
  · exact .inl (domB_iff.2 ⟨a, b, ha, hb, q⟩)
  · exact .inr (domB_iff.2 ⟨b, a, hb, ha, q⟩)

theorem domB_self (g : List Bl) (s : ByteArray) : domB g s s = liveB g s := by
  cases ha : liveOf g s with
  | none => rw [domB_none1 ha, liveB_none ha]
  | some a => rw [liveB_some ha]; exact domB_iff.2 ⟨a, a, ha, ha, .refl g a⟩

/-- To a block but the entry some way comes that has not come by it. -/
theorem rch_pred {g : List Bl} {n : Nat} (hn : Rch g [] n) (h0 : n ≠ 0) : ∃ q, Rch g [n] q ∧ n ∈ nxt g q := by
  have key : ∀ x, Rch g [] x → Rch g [n] x ∨ ∃ q, Rch g [n] q ∧ n ∈ nxt g q := by
    intro x hx
    induction hx with
    | start _ => exact .inl (.start (by simpa using fun e => h0 e.symm))
    | @step i t _ hnt _ ih =>
      rcases ih with ih | ih
      · by_cases e : t = n
        · subst e; exact .inr ⟨i, ih, hnt⟩
        · exact .inl (.step ih hnt (by simpa using e))
      · exact .inr ih
  rcases key n hn with h | h
  · exact absurd (by simp) h.out
  · exact h

/-- What dominates a block but the entry: itself, and what dominates all that go on to it. -/
theorem dm_preds {g : List Bl} {a n : Nat} (h0 : n ≠ 0) : Dm g a n ↔ a = n ∨ ∀ q, Rch g [] q → n ∈ nxt g q → Dm g a q := by
  constructor
  · intro h
    by_cases e : a = n
    · exact .inl e
    · exact .inr fun q _ hn => (h.back hn).resolve_left e
  · rintro (rfl | h)
    · exact .refl g a
    · by_cases e : a = n
      · exact .inl e
      · refine .inr fun hr => ?_
        cases hr with
        | start _ => exact h0 rfl
        | @step i _ hi hn _ =>
          rcases h i hi.free hn with q | q
          · exact hi.out (by simp [q])
          · exact q hi

/-- A block that dominates just what dominates all of some. -/
def AllMeet (g : List Bl) (P : List Nat) (m : Nat) : Prop := Rch g [] m ∧ ∀ x, (∀ p ∈ P, Dm g x p) ↔ Dm g x m

theorem AllMeet.one {g : List Bl} {p : Nat} (h : Rch g [] p) : AllMeet g [p] p := ⟨h, fun x => by simp⟩
theorem AllMeet.more {g : List Bl} {P : List Nat} {m p m' : Nat} (h : AllMeet g P m) (k : IsMeet g m p m') : AllMeet g (P ++ [p]) m' := by
  refine ⟨k.1.live h.1, fun x => ?_⟩
  constructor
  · intro hx
    exact k.2.2 x ((h.2 x).1 fun q hq => hx q (List.mem_append_left _ hq)) (hx p (by simp))
  · intro hx q hq
    rcases List.mem_append.1 hq with hq | hq
    · exact (h.2 x).2 (hx.trans k.1) q hq
    · rw [List.mem_singleton.1 hq]; exact hx.trans k.2.1

theorem AllMeet.par {g : List Bl} {P : List Nat} {m n : Nat} (h : AllMeet g P m) (hn : Rch g [] n) (h0 : n ≠ 0) (hP : ∀ q, q ∈ P ↔ Rch g [] q ∧ n ∈ nxt g q) : Par g m n := by
  have e : ∀ x, Dm g x n ↔ x = n ∨ Dm g x m := fun x => by
    rw [dm_preds h0, ← h.2 x]
    constructor
    · rintro (q | q)
      · exact .inl q
      · exact .inr fun p hp => q p ((hP p).1 hp).1 ((hP p).1 hp).2
    · rintro (q | q)
      · exact .inl q
      · exact .inr fun p hp hpn => q p ((hP p).2 ⟨hp, hpn⟩)
  refine ⟨fun hmn => ?_, h.1, e⟩
  subst hmn
  obtain ⟨q, hq, hqn⟩ := rch_pred hn h0
  rcases (h.2 m).2 (.refl g m) q ((hP q).2 ⟨hq.free, hqn⟩) with k | k
  · exact hq.out (by simp [k])
  · exact k hq

/-- A block of a frontier that is not the entry: two that are reached go on to it. -/
theorem front_two {g : List Bl} {n f : Nat} (hf : Rch g [] f) (h0 : f ≠ 0) {i : Nat} (hi : Rch g [] i) (hd : Dm g n i) (hn : f ∈ nxt g i) (hx : f = n ∨ ¬ Dm g n f) : ∃ j, j ≠ i ∧ Rch g [] j ∧ f ∈ nxt g j := by
  by_cases hc : ∃ j, j ≠ i ∧ Rch g [] j ∧ f ∈ nxt g j
  · exact hc
  · exfalso
    have only : ∀ q, Rch g [] q → f ∈ nxt g q → q = i := fun q hq hfq => by
      by_cases e : q = i
      · exact e
      · exact absurd ⟨q, e, hq, hfq⟩ hc
    have hnf : Dm g n f := (dm_preds h0).2 (.inr fun q hq hfq => by rw [only q hq hfq]; exact hd)
    rcases hx with rfl | hx
    · obtain ⟨q, hq, hqf⟩ := rch_pred hf h0
      have e := only q hq.free hqf
      subst e
      rcases hd with e | e
      · exact hq.out (by simp [e])
      · exact e hq
    · exact hx hnf
end Go.Proofs.Ytdolbmonmkjajaa
