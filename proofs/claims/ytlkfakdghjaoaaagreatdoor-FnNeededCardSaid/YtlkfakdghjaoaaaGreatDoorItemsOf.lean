import Derived.Test.YtlkfakdghjaoaaaGreatDoorJ2
import Derived.Defers
import Derived.Recover
import Derived.Laws.Pointers
set_option maxRecDepth 100000
set_option maxHeartbeats 3200000
namespace Go.Proofs.YtlkfakdghjaoaaaGreatDoor
open Go.RowKit Go.Sort
theorem ek {R : Nat} {w w' : World} {base : Nat} {e : TypeId} {size : Nat} {v : Value} {n : Nat} {xs : List Value} (h : w.ownsRow base e size v n xs) (ho : Only R w w') (hR : R < base) : w'.ownsRow base e size v n xs := by
 refine ⟨h.1, ?_⟩
 rcases h.2 with hn | ⟨g, cap, cur, hv, hb2, hg, rest⟩
 ·exact .inl hn
 ·refine .inr ⟨g, cap, cur, hv, hb2, ?_, rest⟩
  have hlt : g < w.heap.size := by
   rcases Nat.lt_or_ge g w.heap.size with h' | h'
   ·exact h'
   ·rw [Array.getElem?_eq_none h'] at hg; cases hg
  exact (ho.block g (by omega) hlt).trans hg
theorem Only.grown {R : Nat} {w w2 w5 : World} {row : Option Nat} (h : Only R w w2) (hg : w2.grownBy w5 row) (hr : ∀ k, row = some k → w.heap.size ≤ k) : Only R w w5 :=
 ⟨hg.os.trans h.os, hg.tape.trans h.tape, hg.output.trans h.output, Nat.le_trans h.size hg.size, fun k hk hlt => (hg.block k (Nat.lt_of_lt_of_le hlt h.size) (fun e => by have := hr k e.symm; omega)).trans (h.block k hk hlt)⟩
theorem Rdr.grown {R : Nat} {w w' : World} {s : List UInt8} {f : Nat} {row : Option Nat} (h : Rdr w R s f) (hg : w.grownBy w' row) (hr : some R ≠ row) : Rdr w' R s f := (hg.block R h.lt hr).trans h
theorem Rdr.alloc {R : Nat} {w : World} {s : List UInt8} {f : Nat} (h : Rdr w R s f) (o : Obj) : Rdr (w.alloc o) R s f := Blk.alloc h o
abbrev dc (B : Nat) (v : Value) : Nat → Prop := fun b => B ≤ b ∧ some b ≠ v.ownBlock
def leftOf (w : World) (R : Nat) : Nat := match w.cell? ⟨R, 0, none⟩ with | some (.string s) => s.size | _ => 0
theorem Rdr.leftOf {R : Nat} {w : World} {s : List UInt8} {f : Nat} (h : Rdr w R s f) : leftOf w R = s.length := by
 show (match w.cell? ⟨R, 0, none⟩ with | some (.string s) => s.size | _ => 0) = _
 rw [h.left]; exact aB s
theorem uX {c : UInt8} {t : List UInt8} : (c ∈ ([41, 125, 93] : List UInt8)) ↔ Ends (c :: t) := by
 unfold Ends
 simp only [List.mem_cons, List.not_mem_nil, or_false]
 constructor
 ·rintro (rfl | rfl | rfl)
  ·exact .inr ⟨t, .inl rfl⟩
  ·exact .inr ⟨t, .inr (.inl rfl)⟩
  ·exact .inr ⟨t, .inr (.inr rfl)⟩
 ·rintro (h | ⟨u, h | h | h⟩)
  ·cases h
  ·exact .inl (List.cons.inj h).1
  ·exact .inr (.inl (List.cons.inj h).1)
  ·exact .inr (.inr (List.cons.inj h).1)
theorem xq (c : UInt8) (W : World) : Calls Tryz.prog 63 #[.string ⟨#[41, 125, 93]⟩, .string (tb [c])] W fun e w' => e = .returned (.bool (decide (c ∈ ([41, 125, 93] : List UInt8)))) ∧ w' = W := by
 have := Tryz.strings_Contains_one ⟨#[41, 125, 93]⟩ c W
 rw [show decide (0 ≤ Lib.indexByte (⟨#[41, 125, 93]⟩ : ByteArray).data.toList c) = decide (c ∈ ([41, 125, 93] : List UInt8)) from decide_eq_decide.2 eT] at this
 exact this
theorem uY (w : World) (v : Value) (T : TypeId) : ∀ (j : Nat) (u : Value), [v][j]? = some u → (w.alloc (.cells #[v] T)).cell? ((⟨w.heap.size, 0, none⟩ : Addr).add j) = some u := by
 intro j u hj
 match j, hj with
 | 0, hj =>
  have hu : v = u := by simpa using hj
  rw [← hu]
  simp [Addr.add]
theorem ItemAt.iface {w : World} {P : Nat → Prop} {i : It} {v : Value} (h : ItemAt w P i v) : ∃ T x, v = .iface T x := by
 cases i with
 | ask c l r => rw [ItemAt] at h; obtain ⟨_, _, _, _, e, _⟩ := h; exact ⟨_, _, e⟩
 | frame b l => rw [ItemAt] at h; obtain ⟨_, _, e, _⟩ := h; exact ⟨_, _, e⟩
 | pick bs => rw [ItemAt] at h; obtain ⟨_, _, e, _⟩ := h; exact ⟨_, _, e⟩
 | _ => rw [ItemAt] at h; exact ⟨_, _, h⟩
theorem AO : (Tryz.prog.info? 76).map (fun i => (i.zero, i.size, i.bytes)) = some (some .nilIface, 1, 16) := by kernel_rfl
def AP (n : Nat) : Prop := ∀ (R f : Nat) (s : List UInt8) (w : World), s.length ≤ n → f ≤ 9 → Rdr w R s f →
 Calls Tryz.prog 146 #[.pointer (some ⟨R, 0, none⟩)] w (eN R f s w)
theorem sK (n : Nat) (hn : n ≤ 1000) (HI : AP n) : fD n := by
 intro R f s w hs hf h
 obtain ⟨i0, hi, hz0, hz1, hz2⟩ := info_parts AO
 have HIX := GR HI
 have hR := h.lt
 have HR0 := GR h
 clear HI h
 go_enter Tryz.func98, Tryz.ntmps98
 go_wp2_with fail
 go_loopw [3] (fun pv wr => ∃ (l : List It) (t : List UInt8) (vs : List Value) (q : Value), q = pv ∧ t.length + l.length ≤ n ∧ vs.length = l.length ∧ Hid (tX f s l t) ∧ Hid (wr.ownsRow w.heap.size 76 1 pv vs.length vs) ∧ Hid (AllAt wr (dc w.heap.size pv) l vs) ∧ Hid (Rdr wr R t f) ∧ Hid (Only R w wr)) (fun _ wr => leftOf wr R)
 case atStart => exact ⟨[], s, [], _, rfl, by simpa using hs, rfl, tY f s, World.ownsRow_nil w _ _ _, AllAt.nil _ _, HR0.out, Only.refl R w⟩
 case round =>
  obtain ⟨l, t, vs, pv, rfl, hlen, hvl, HS, HOW, HAT, HR, HO⟩ := hrel
  have c0 := HR.out.left
  cases t with
  | nil =>
   have t1 : ((tb []).toList == ([] : List UInt8)) = true := by rw [an]; rfl
   have t2 : ((tb []).toList != ([] : List UInt8)) = false := by rw [an]; rfl
   go_wp2_with fail
   go_ret
   refine .inl ⟨l, [], _, yR HS.out wY, rfl, ?_, ⟨vs, ?_, ?_⟩, HR.out, HO.out⟩
   ·rcases HOW.out.2 with ⟨rfl, _⟩ | ⟨_, _, _, rfl, _⟩ <;> rfl
   ·exact gW HOW.out rfl
   ·exact AllAt.stay ⟨Nat.le_refl _, fun b _ hp => ⟨hp.1, rfl⟩⟩ l vs HAT.out
  | cons c u =>
   obtain ⟨x, hx⟩ : ∃ x, x = tb (c :: u) := ⟨_, rfl⟩
   have hz : x.size = u.length + 1 := by rw [hx, aB]; rfl
   have t1 : (x.toList == ([] : List UInt8)) = false := by rw [hx, an]; rfl
   have t2 : (x.toList != ([] : List UInt8)) = true := by rw [hx, an]; rfl
   have HH := yB c u
   rw [← hx] at c0 HH
   have l1 : 1 ≤ x.size := by omega
   have l2 : (1 : Int) ≤ (x.size : Int) := by omega
   have HC := GR (fun W => xq c W)
   rw [← HH] at HC
   by_cases he : Ends (c :: u)
   ·rw [decide_eq_true ((uX (t := u)).2 he)] at HC
    have HE := GR he
    clear hx HH he
    go_wp2_with fail
    refine (HC.out _).mono ?_
    rintro e w1 ⟨rfl, rfl⟩
    go_wp2_with fail
    go_ret
    refine .inl ⟨l, c :: u, _, yR HS.out HE.out, rfl, ?_, ⟨vs, ?_, ?_⟩, HR.out, HO.out⟩
    ·rcases HOW.out.2 with ⟨rfl, _⟩ | ⟨_, _, _, rfl, _⟩ <;> rfl
    ·exact gW HOW.out rfl
    ·exact AllAt.stay ⟨Nat.le_refl _, fun b _ hp => ⟨hp.1, rfl⟩⟩ l vs HAT.out
   ·rw [decide_eq_false (fun q => he ((uX (t := u)).1 q))] at HC
    have HE := GR he
    have HIT := GR (HIX.out R f (c :: u) wr (by omega) hf HR.out)
    clear hx HH he
    go_wp2_with fail
    refine (HC.out _).mono ?_
    rintro e w1 ⟨rfl, rfl⟩
    go_wp2_with fail
    refine HIT.out.mono ?_
    rintro e w2 (⟨i, r, v, hrd, rfl, h1c, hit, hr2, ho2⟩ | ⟨⟨q, rfl⟩, hno, ho2⟩)
    ·obtain ⟨T, y, rfl⟩ := hit.iface
     have HOW2 := GR (ek HOW.out ho2 hR)
     have HRD := GR hrd
     have hsz2 := ho2.size
     have hown := HOW.out.lt
     have HIT2 : Hid (ItemAt w2 (dc w.heap.size pv) i (.iface T y)) := ItemAt.stay ⟨Nat.le_refl _, fun b _ hp => ⟨⟨Nat.le_trans HO.out.size hp, fun e => by have := (hown b e.symm).2; have hp' : w1.heap.size ≤ b := hp; omega⟩, rfl⟩⟩ i _ hit
     have HAT2 : Hid (AllAt w2 (dc w.heap.size pv) l vs) := AllAt.stay ⟨hsz2, fun b hb hp => ⟨hp, ho2.block b (by have := hp.1; omega) hb⟩⟩ l vs HAT.out
     have HR2 := GR hr2
     have HO2 := GR (HO.out.trans ho2)
     have hvn : vs.length ≤ 1000 := by simp at hlen; omega
     have hbs := HO.out.size
     have HNEW := GR (uY w2 (.iface T y) 76)
     have HC2 := GR (show ∀ u ∈ [Value.iface T y], u.oneCell' = true from fun u hu => by rw [List.mem_singleton.1 hu]; exact h1c)
     clear hrd hit hr2 ho2 h1c c0
     go_wp2_with (at_builtin; go_loud (refine wpList_append_own_at _ rfl _ _ 69 rfl w.heap.size 76 i0 .nilIface 1 16 Tryz.underlying69 hi hz0 hz1 hz2 rfl (by decide) _ _ _ rfl (HOW2.out.alloc _) ⟨w2.heap.size, 0, none⟩ 1 1 [.iface T y] rfl rfl HNEW.out HC2.out ?c3 ?c4 ?c5 ?_))
     case c3 => unfold maxLen; omega
     case c4 => omega
     case c5 => simp; omega
     intro v' w5 hown' hgrow _ hat
     have hown2 := HOW2.out.lt
     have hG : w2.grownBy w5 pv.ownBlock := (World.grownBy_alloc w2 _ _).trans hgrow
     have HST : Stay w2 (dc w.heap.size pv) w5 (dc w.heap.size v') := ⟨hG.size, fun b hb hp => ⟨⟨hp.1, by
      rcases hat with q | q
      ·rw [q]; exact hp.2
      ·rw [q]; intro e; have := Option.some.inj e; first | omega | (rw [World.size_alloc] at this; omega) | (simp at this; omega)⟩, hG.block b hb hp.2⟩⟩
     have HAT5 := GR (AllAt.stay HST _ _ (HAT2.out.snoc HIT2.out))
     have HR5 := GR (HR2.out.grown hG (fun e => by have := (hown2 R e.symm).1; omega))
     have HO5 := GR (HO2.out.grown hG fun k e => (hown2 k e).1)
     have HOW5 : Hid (w5.ownsRow w.heap.size 76 1 v' (vs ++ [Value.iface T y]).length (vs ++ [Value.iface T y])) := by
      show w5.ownsRow _ _ _ _ _ _
      rw [List.length_append, List.length_singleton, hvl]; exact hown'
     have HS5 := GR (wR HS.out HRD.out)
     have hsh := HRD.out.shorter
     have hl5 : r.length + (l ++ [i]).length ≤ n := by simp at hsh hlen ⊢; omega
     have hv5 : (vs ++ [Value.iface T y]).length = (l ++ [i]).length := by simp; omega
     clear hown2 hG HST hgrow hat hown'
     go_wp2_with fail
     go_roundw
     case rel => exact ⟨l ++ [i], r, vs ++ [Value.iface T y], v', rfl, hl5, hv5, HS5.out, HOW5.out, HAT5.out, HR5.out, HO5.out⟩
     case measure =>
      show leftOf _ R < leftOf _ R
      rw [HR5.out.leftOf, HR.out.leftOf]; exact hsh
    ·go_wp2_with fail
     exact ⟨rfl, .inr ⟨⟨_, rfl⟩, F3 HS.out HE.out hno, HO.out.trans ho2⟩⟩
end Go.Proofs.YtlkfakdghjaoaaaGreatDoor
namespace Go.Proofs.YtlkfakdghjaoaaaGreatDoor
open Go.RowKit Go.Sort
def Ev (R f : Nat) (s : List UInt8) (w : World) (e : Ending) (w' : World) : Prop :=
 (∃ bs r v, rE f s bs r ∧ 0 < bs.length ∧ bs.length ≤ 10 ∧ (eP r ∨ bs.length = 10) ∧ e = .returned v ∧ v.oneCell' = true ∧ RowsAt w' (bi w) bs v ∧ Rdr w' R r f ∧ Only R w w') ∨ (pk e ∧ dB f (35 :: s) ∧ Only R w w')
theorem zp : (Tryz.prog.info? 69).map (fun i => (i.zero, i.size, i.bytes)) = some (some (.slice none 0 0), 1, 24) := by kernel_rfl
def pK : List UInt8 → Bool
 | [] => false
 | c :: _ => decide (c = 91)
theorem C7 {t : List UInt8} (h : pK t = true) : ∃ u, t = 91 :: u := by
 cases t with
 | nil => cases h
 | cons c u => have : c = 91 := of_decide_eq_true h; exact ⟨u, by rw [this]⟩
theorem Ew {t : List UInt8} (h : pK t = false) : eP t := by
 intro u e
 rw [e] at h
 have h2 : pK (91 :: u) = true := rfl
 rw [h2] at h; cases h
theorem zq (t : List UInt8) (W : World) : Calls Tryz.prog 210 #[.string (tb t), .string ⟨#[91]⟩] W fun e w' => e = .returned (.bool (pK t)) ∧ w' = W := by
 have := Tryz.strings_HasPrefix (tb t) ⟨#[91]⟩ W
 rw [aI, show Lib.hasPrefix t (⟨#[91]⟩ : ByteArray).data.toList = pK t from by
  cases t with
  | nil => rfl
  | cons c u =>
   by_cases h : c = 91
   ·subst h; simp [Lib.hasPrefix, pK]
   ·have h' : ¬ (91 : UInt8) = c := fun e => h e.symm
    show ((91 : UInt8) == c && List.isPrefixOf [] u) = decide (c = 91)
    rw [decide_eq_false h, beq_eq_false_iff_ne.2 h']; rfl] at this
 exact this
theorem uZ (n : Nat) (HI : fD n) (R f : Nat) (s : List UInt8) (w : World) (hs : s.length ≤ n + 1) (hf : f ≤ 9) (h : Rdr w R s f) :
  Calls Tryz.prog 187 #[.pointer (some ⟨R, 0, none⟩)] w (Ev R f s w) := by
 obtain ⟨i0, hi, hz0, hz1, hz2⟩ := info_parts zp
 have HBR := GR (fun s' W (hs' : s'.length ≤ n + 1) (k : Rdr W R s' f) => ll n HI R f s' W hs' hf k)
 have hR := h.lt
 have H0 := GR (HBR.out s w hs h)
 clear HI h
 go_enter Tryz.func187, Tryz.ntmps187
 go_wp2_with fail
 refine H0.out.mono ?_
 rintro e w1 (⟨l0, r0, v0, hrd, rfl, h1c, hrow, hr0, ho0⟩ | ⟨⟨q, rfl⟩, hno, ho0⟩)
 ·obtain ⟨xs0, ⟨A0, k0, rfl, _⟩, _⟩ := id hrow
  have HOW1 : Hid ((w1.alloc (.cells #[.slice A0 xs0.length k0] 69)).ownsRow w.heap.size 69 1 (.slice (some ⟨w1.heap.size, 0, none⟩) 1 1) [Value.slice A0 xs0.length k0].length [Value.slice A0 xs0.length k0]) := World.ownsRow_lit w1 #[.slice A0 xs0.length k0] 1 ho0.size (by decide) rfl
  have HAT1 : Hid (AllRows (w1.alloc (.cells #[.slice A0 xs0.length k0] 69)) (dc w.heap.size (.slice (some ⟨w1.heap.size, 0, none⟩) 1 1)) [l0] [Value.slice A0 xs0.length k0]) := by
   have := AllRows.snoc (hrow.stay (⟨by simp, fun b hb hp => ⟨⟨hp, fun e => by have h9 : b = w1.heap.size := Option.some.inj e; omega⟩, Below.heap_alloc w1 _ b hb⟩⟩ : Stay w1 (bi w) (w1.alloc (.cells #[.slice A0 xs0.length k0] 69)) (dc w.heap.size (.slice (some ⟨w1.heap.size, 0, none⟩) 1 1)))) (AllRows.nil _ _)
   exact this
  have HR1 := GR (hr0.alloc (.cells #[.slice A0 xs0.length k0] 69))
  have HO1 := GR (ho0.alloc (.cells #[.slice A0 xs0.length k0] 69))
  have HS1 := GR (p7 (tZ f s) hrd)
  have hsh0 := hrd.shorter
  clear hrd h1c hrow hr0 ho0 H0
  go_wp2_with fail
  go_loopw [3] (fun pv wr => ∃ (bs : List (List It)) (t : List UInt8) (vs : List Value) (q : Value), q = pv ∧ t.length ≤ n ∧ 0 < bs.length ∧ bs.length ≤ 10 ∧ vs.length = bs.length ∧ Hid (rE f s bs t) ∧ Hid (wr.ownsRow w.heap.size 69 1 pv vs.length vs) ∧ Hid (AllRows wr (dc w.heap.size pv) bs vs) ∧ Hid (Rdr wr R t f) ∧ Hid (Only R w wr)) (fun _ wr => leftOf wr R)
  case atStart => exact ⟨[l0], r0, [.slice A0 xs0.length k0], _, rfl, by omega, by simp, by simp, rfl, HS1.out, HOW1.out, HAT1.out, HR1.out, HO1.out⟩
  case round =>
   obtain ⟨bs, t, vs, pv, rfl, htl, hb0, hb10, hvl, HS, HOW, HAT, HR, HO⟩ := hrel
   obtain ⟨A, cap, rfl, _⟩ := gW HOW.out rfl
   have c0 := HR.out.left
   have HVL := GR hvl
   by_cases hfull : bs.length = 10
   ·have HFULL := GR hfull
    have q1 : decide ((vs.length : Int) < 10) = false := decide_eq_false (by omega)
    have q2 : ¬ vs.length < 10 := by omega
    clear hvl hfull
    go_wp2_with fail
    go_ret
    refine .inl ⟨bs, t, _, HS.out, hb0, hb10, .inr HFULL.out, rfl, rfl, ⟨vs, ?_, ?_⟩, HR.out, HO.out⟩
    ·exact gW HOW.out rfl
    ·exact AllRows.stay ⟨Nat.le_refl _, fun b _ hp => ⟨hp.1, rfl⟩⟩ bs vs HAT.out
   ·have q1 : decide ((vs.length : Int) < 10) = true := decide_eq_true (by omega)
    have q2 : vs.length < 10 := by omega
    have q3 : bs.length < 10 := by omega
    clear hvl
    have HC := GR (fun W => zq t W)
    cases hp : pK t with
    | true =>
     rw [hp] at HC
     obtain ⟨u, rfl⟩ := C7 hp
     clear hp
     have HIT := GR (HBR.out (91 :: u) wr (by omega) HR.out)
     go_wp2_with fail
     refine (HC.out _).mono ?_
     rintro e w2 ⟨rfl, rfl⟩
     go_wp2_with fail
     refine HIT.out.mono ?_
     rintro e w3 (⟨l, r, v, hrd, rfl, h1c, hrow, hr3, ho3⟩ | ⟨⟨q, rfl⟩, hno, ho3⟩)
     ·obtain ⟨xs3, ⟨A3, k3, rfl, _⟩, _⟩ := id hrow
      have HOW3 := GR (ek HOW.out ho3 hR)
      have HRD := GR hrd
      have hsz3 := ho3.size
      have hown := HOW.out.lt
      have HROW3 : Hid (RowAt w3 (dc w.heap.size (.slice A vs.length cap)) l (.slice A3 xs3.length k3)) := hrow.stay ⟨Nat.le_refl _, fun b _ hp => ⟨⟨Nat.le_trans HO.out.size hp, fun e => by have := (hown b e.symm).2; have hp' : w2.heap.size ≤ b := hp; omega⟩, rfl⟩⟩
      have HAT3 : Hid (AllRows w3 (dc w.heap.size (.slice A vs.length cap)) bs vs) := AllRows.stay ⟨hsz3, fun b hb hp => ⟨hp, ho3.block b (by have := hp.1; omega) hb⟩⟩ bs vs HAT.out
      have HR3 := GR hr3
      have HO3 := GR (HO.out.trans ho3)
      have hbs := HO.out.size
      have HNEW := GR (uY w3 (.slice A3 xs3.length k3) 69)
      have HC2 := GR (show ∀ u ∈ [Value.slice A3 xs3.length k3], u.oneCell' = true from fun u hu => by rw [List.mem_singleton.1 hu]; exact h1c)
      clear hrd hrow hr3 ho3 h1c c0
      go_wp2_with (at_builtin; refine wpList_append_own_at _ rfl _ _ 149 rfl w.heap.size 69 i0 (.slice none 0 0) 1 24 Tryz.underlying149 hi hz0 hz1 hz2 rfl (by decide) _ _ _ rfl (HOW3.out.alloc _) ⟨w3.heap.size, 0, none⟩ 1 1 [.slice A3 xs3.length k3] rfl rfl HNEW.out HC2.out ?c3 ?c4 ?c5 ?_)
      case c3 => unfold maxLen; omega
      case c4 => omega
      case c5 => simp; omega
      intro v' w5 hown' hgrow _ hat
      have hown2 := HOW3.out.lt
      have hG : w3.grownBy w5 (Value.slice A vs.length cap).ownBlock := (World.grownBy_alloc w3 _ _).trans hgrow
      have HST : Stay w3 (dc w.heap.size (.slice A vs.length cap)) w5 (dc w.heap.size v') := ⟨hG.size, fun b hb hp => ⟨⟨hp.1, by
       rcases hat with q | q
       ·rw [q]; exact hp.2
       ·rw [q]; intro e; have := Option.some.inj e; first | omega | (rw [World.size_alloc] at this; omega) | (simp at this; omega)⟩, hG.block b hb hp.2⟩⟩
      have HAT5 := GR (AllRows.stay HST _ _ (HAT3.out.snoc HROW3.out))
      have HR5 := GR (HR3.out.grown hG (fun e => by have := (hown2 R e.symm).1; omega))
      have HO5 := GR (HO3.out.grown hG fun k e => (hown2 k e).1)
      have HOW5 : Hid (w5.ownsRow w.heap.size 69 1 v' (vs ++ [Value.slice A3 xs3.length k3]).length (vs ++ [Value.slice A3 xs3.length k3])) := by
       show w5.ownsRow _ _ _ _ _ _
       rw [List.length_append, List.length_singleton]; exact hown'
      have HS5 := GR (p7 HS.out HRD.out)
      have hsh := HRD.out.shorter
      have hl5 : r.length ≤ n := by omega
      have hb5 : (bs ++ [l]).length ≤ 10 := by simp; omega
      have hb6 : 0 < (bs ++ [l]).length := by simp
      have hv5 : (vs ++ [Value.slice A3 xs3.length k3]).length = (bs ++ [l]).length := by have := HVL.out; simp; omega
      clear hown2 hG HST hgrow hat hown'
      go_wp2_with fail
      go_roundw
      case rel => exact ⟨bs ++ [l], r, vs ++ [Value.slice A3 xs3.length k3], v', rfl, hl5, hb6, hb5, hv5, HS5.out, HOW5.out, HAT5.out, HR5.out, HO5.out⟩
      case measure =>
       show leftOf _ R < leftOf _ R
       rw [HR5.out.leftOf, HR.out.leftOf]; exact hsh
     ·go_wp2_with fail
      exact ⟨rfl, .inr ⟨⟨_, rfl⟩, wX HS.out hno, HO.out.trans ho3⟩⟩
    | false =>
     rw [hp] at HC
     have HNB := GR (Ew hp)
     clear hp
     go_wp2_with fail
     refine (HC.out _).mono ?_
     rintro e w2 ⟨rfl, rfl⟩
     go_wp2_with fail
     go_ret
     refine .inl ⟨bs, t, _, HS.out, hb0, hb10, .inl HNB.out, rfl, rfl, ⟨vs, ?_, ?_⟩, HR.out, HO.out⟩
     ·exact gW HOW.out rfl
     ·exact AllRows.stay ⟨Nat.le_refl _, fun b _ hp => ⟨hp.1, rfl⟩⟩ bs vs HAT.out
 ·go_wp2_with fail
  exact ⟨rfl, .inr ⟨⟨_, rfl⟩, Cu hno, ho0⟩⟩
end Go.Proofs.YtlkfakdghjaoaaaGreatDoor
namespace Go.Proofs.YtlkfakdghjaoaaaGreatDoor
open Go.RowKit Go.Sort
theorem md {c x : UInt8} (h : c ≠ x) : ((tb [c]).toList == [x]) = false := by rw [an]; simpa using h
theorem eA {w : World} {P : Nat → Prop} {l : List It} {v : Value} (h : RowAt w P l v) : ∃ A k xs, v = .slice A xs k ∧ RowAt w P l (.slice A xs k) := by
 obtain ⟨xs, ⟨A, k, e, h1⟩, h2⟩ := h
 exact ⟨A, k, xs.length, e, xs, ⟨A, k, rfl, h1⟩, h2⟩
theorem xr {w : World} {P : Nat → Prop} {l : List (List It)} {v : Value} (h : RowsAt w P l v) : ∃ A k xs, v = .slice A xs k ∧ RowsAt w P l (.slice A xs k) := by
 obtain ⟨xs, ⟨A, k, e, h1⟩, h2⟩ := h
 exact ⟨A, k, xs.length, e, xs, ⟨A, k, rfl, h1⟩, h2⟩
theorem AQ {w w1 w2 : World} {R : Nat} (hR : R < w.heap.size) (ho : Only R w1 w2) : Stay w1 (bi w) w2 (bi w) :=
 ⟨ho.size, fun b hb hp => ⟨hp, ho.block b (by have hp' : w.heap.size ≤ b := hp; omega) hb⟩⟩
theorem sL {w w1 w2 : World} (h : w.heap.size ≤ w1.heap.size) : Stay w2 (bi w1) w2 (bi w) := ⟨Nat.le_refl _, fun _ _ hp => ⟨Nat.le_trans h hp, rfl⟩⟩
theorem AR (R f : Nat) (t : List UInt8) (w : World) (h : Rdr w R (46 :: t) f) :
  Calls Tryz.prog 146 #[.pointer (some ⟨R, 0, none⟩)] w (eN R f (46 :: t) w) := by
 have HN := GR (dA R f 46 t w h)
 have HT := GR (h.to t)
 clear h
 have k63 : ((tb [46]).toList == [63]) = false := by rw [an]; decide
 have k46 : ((tb [46]).toList == [46]) = true := by rw [an]; decide
 have k40 : ((tb [46]).toList == [40]) = false := by rw [an]; decide
 have k123 : ((tb [46]).toList == [123]) = false := by rw [an]; decide
 have k94 : ((tb [46]).toList == [94]) = false := by rw [an]; decide
 have k61 : ((tb [46]).toList == [61]) = false := by rw [an]; decide
 have k35 : ((tb [46]).toList == [35]) = false := by rw [an]; decide
 go_enter Tryz.func146, Tryz.ntmps146
 go_wp2_with fail
 refine HN.out.mono ?_
 rintro e w1 ⟨rfl, rfl⟩
 go_wp2_with fail
 go_ret
 exact .inl ⟨.stop, t, _, ⟨by rw [aC]; trivial, .inr trivial, by rw [aK]; rfl⟩, rfl, rfl, by rw [ItemAt] <;> rfl, HT.out, Only.set R w 0 _⟩
theorem pL (n : Nat) (HI : fD n) (R f : Nat) (t : List UInt8) (w : World) (hs : t.length ≤ n) (hf : f ≤ 9) (h : Rdr w R (40 :: t) f) :
  Calls Tryz.prog 146 #[.pointer (some ⟨R, 0, none⟩)] w (eN R f (40 :: t) w) := by
 have HN := GR (dA R f 40 t w h)
 have HF := GR (tH n HI R f false t _ hs hf (h.to t))
 have hR := h.lt
 clear h HI
 have k63 : ((tb [40]).toList == [63]) = false := by rw [an]; decide
 have k46 : ((tb [40]).toList == [46]) = false := by rw [an]; decide
 have k40 : ((tb [40]).toList == [40]) = true := by rw [an]; decide
 have k123 : ((tb [40]).toList == [123]) = false := by rw [an]; decide
 have k94 : ((tb [40]).toList == [94]) = false := by rw [an]; decide
 have k61 : ((tb [40]).toList == [61]) = false := by rw [an]; decide
 have k35 : ((tb [40]).toList == [35]) = false := by rw [an]; decide
 go_enter Tryz.func146, Tryz.ntmps146
 go_wp2_with fail
 refine HN.out.mono ?_
 rintro e w1 ⟨rfl, rfl⟩
 go_wp2_with fail
 refine HF.out.mono ?_
 rintro e w2 (⟨l, r, v, hf9, hl, rfl, h1c, hrow, hr, ho⟩ | ⟨⟨u, rfl⟩, hno, ho⟩)
 ·obtain ⟨A, k, m, rfl, hrow⟩ := eA hrow
  have HROW := GR hrow
  have HL := GR hl
  have HR := GR hr
  have HO := GR ho
  clear hl hrow hr ho h1c
  go_wp2_with fail
  go_ret
  refine .inl ⟨.frame false l, r, _, wU false hf9 HL.out (.inr trivial), rfl, rfl, ?_, HR.out, (Only.set R w 0 _).trans HO.out⟩
  have := HROW.out
  rw [eF] at this
  obtain ⟨xs, h1, h2⟩ := this
  rw [ItemAt]
  exact ⟨_, xs, rfl, h1, h2⟩
 ·go_wp2_with fail
  exact ⟨rfl, .inr ⟨⟨_, rfl⟩, hno, (Only.set R w 0 _).trans ho⟩⟩
theorem qt (n : Nat) (HI : fD n) (R f : Nat) (t : List UInt8) (w : World) (hs : t.length ≤ n) (hf : f ≤ 9) (h : Rdr w R (123 :: t) f) :
  Calls Tryz.prog 146 #[.pointer (some ⟨R, 0, none⟩)] w (eN R f (123 :: t) w) := by
 have HN := GR (dA R f 123 t w h)
 have HF := GR (tH n HI R f true t _ hs hf (h.to t))
 have hR := h.lt
 clear h HI
 have k63 : ((tb [123]).toList == [63]) = false := by rw [an]; decide
 have k46 : ((tb [123]).toList == [46]) = false := by rw [an]; decide
 have k40 : ((tb [123]).toList == [40]) = false := by rw [an]; decide
 have k123 : ((tb [123]).toList == [123]) = true := by rw [an]; decide
 have k94 : ((tb [123]).toList == [94]) = false := by rw [an]; decide
 have k61 : ((tb [123]).toList == [61]) = false := by rw [an]; decide
 have k35 : ((tb [123]).toList == [35]) = false := by rw [an]; decide
 go_enter Tryz.func146, Tryz.ntmps146
 go_wp2_with fail
 refine HN.out.mono ?_
 rintro e w1 ⟨rfl, rfl⟩
 go_wp2_with fail
 refine HF.out.mono ?_
 rintro e w2 (⟨l, r, v, hf9, hl, rfl, h1c, hrow, hr, ho⟩ | ⟨⟨u, rfl⟩, hno, ho⟩)
 ·obtain ⟨A, k, m, rfl, hrow⟩ := eA hrow
  have HROW := GR hrow
  have HL := GR hl
  have HR := GR hr
  have HO := GR ho
  clear hl hrow hr ho h1c
  go_wp2_with fail
  go_ret
  refine .inl ⟨.frame true l, r, _, wU true hf9 HL.out (.inr trivial), rfl, rfl, ?_, HR.out, (Only.set R w 0 _).trans HO.out⟩
  have := HROW.out
  rw [eF] at this
  obtain ⟨xs, h1, h2⟩ := this
  rw [ItemAt]
  exact ⟨_, xs, rfl, h1, h2⟩
 ·go_wp2_with fail
  exact ⟨rfl, .inr ⟨⟨_, rfl⟩, hno, (Only.set R w 0 _).trans ho⟩⟩
theorem zr (R f : Nat) (t : List UInt8) (w : World) (h : Rdr w R (94 :: t) f) :
  Calls Tryz.prog 146 #[.pointer (some ⟨R, 0, none⟩)] w (eN R f (94 :: t) w) := by
 have HN := GR (dA R f 94 t w h)
 have c1 : (w.setCell ⟨R, 0, none⟩ (.string (tb t))).cell? ⟨R, 1, none⟩ = some (.int .i64 f) := (h.to t).frames
 have k63 : ((tb [94]).toList == [63]) = false := by rw [an]; decide
 have k46 : ((tb [94]).toList == [46]) = false := by rw [an]; decide
 have k40 : ((tb [94]).toList == [40]) = false := by rw [an]; decide
 have k123 : ((tb [94]).toList == [123]) = false := by rw [an]; decide
 have k94 : ((tb [94]).toList == [94]) = true := by rw [an]; decide
 have k61 : ((tb [94]).toList == [61]) = false := by rw [an]; decide
 have k35 : ((tb [94]).toList == [35]) = false := by rw [an]; decide
 by_cases hd : ∃ n u, n < 10 ∧ n < f ∧ t = dH n :: u
 ·obtain ⟨n, u, h10, hl, rfl⟩ := hd
  have HD := GR (tG R f n f u _ (h.to (dH n :: u)) h10 hl)
  have HT := GR ((h.to (dH n :: u)).to u)
  clear h
  go_enter Tryz.func146, Tryz.ntmps146
  go_wp2_with fail
  refine HN.out.mono ?_
  rintro e w1 ⟨rfl, rfl⟩
  go_wp2_with fail
  refine HD.out.mono ?_
  rintro e w2 ⟨rfl, rfl⟩
  go_wp2_with fail
  go_ret
  exact .inl ⟨.leave n, u, _, wV hl h10 (.inr trivial), rfl, rfl, by rw [ItemAt] <;> rfl, HT.out, (Only.set R w 0 _).trans (Only.set R _ 0 _)⟩
 ·have hx : ∀ n u, n < 10 → n < f → t ≠ dH n :: u := fun n u a b e => hd ⟨n, u, a, b, e⟩
  have HD := GR (wd R f f t _ (h.to t) hx)
  have HNO := GR (show dB f (94 :: t) from oo fun n u hl h10 => hx n u h10 hl)
  clear h hd hx
  go_enter Tryz.func146, Tryz.ntmps146
  go_wp2_with fail
  refine HN.out.mono ?_
  rintro e w1 ⟨rfl, rfl⟩
  go_wp2_with fail
  refine HD.out.mono ?_
  rintro e w2 ⟨⟨u, rfl⟩, ho⟩
  go_wp2_with fail
  exact ⟨rfl, .inr ⟨⟨_, rfl⟩, HNO.out, (Only.set R w 0 _).trans ho⟩⟩
theorem C8 (R f : Nat) (t : List UInt8) (w : World) (h : Rdr w R (61 :: t) f) :
  Calls Tryz.prog 146 #[.pointer (some ⟨R, 0, none⟩)] w (eN R f (61 :: t) w) := by
 have HN := GR (dA R f 61 t w h)
 have c1 : (w.setCell ⟨R, 0, none⟩ (.string (tb t))).cell? ⟨R, 1, none⟩ = some (.int .i64 f) := (h.to t).frames
 have k63 : ((tb [61]).toList == [63]) = false := by rw [an]; decide
 have k46 : ((tb [61]).toList == [46]) = false := by rw [an]; decide
 have k40 : ((tb [61]).toList == [40]) = false := by rw [an]; decide
 have k123 : ((tb [61]).toList == [123]) = false := by rw [an]; decide
 have k94 : ((tb [61]).toList == [94]) = false := by rw [an]; decide
 have k61 : ((tb [61]).toList == [61]) = true := by rw [an]; decide
 have k35 : ((tb [61]).toList == [35]) = false := by rw [an]; decide
 by_cases hd : ∃ n u, n < 10 ∧ n < 10 ∧ t = dH n :: u
 ·obtain ⟨n, u, h10, hl, rfl⟩ := hd
  have HD := GR (tG R f n 10 u _ (h.to (dH n :: u)) h10 hl)
  have HT := GR ((h.to (dH n :: u)).to u)
  clear h
  go_enter Tryz.func146, Tryz.ntmps146
  go_wp2_with fail
  refine HN.out.mono ?_
  rintro e w1 ⟨rfl, rfl⟩
  go_wp2_with fail
  refine HD.out.mono ?_
  rintro e w2 ⟨rfl, rfl⟩
  go_wp2_with fail
  go_ret
  exact .inl ⟨.set n, u, _, Ct h10 (.inr trivial), rfl, rfl, by rw [ItemAt] <;> rfl, HT.out, (Only.set R w 0 _).trans (Only.set R _ 0 _)⟩
 ·have hx : ∀ n u, n < 10 → n < 10 → t ≠ dH n :: u := fun n u a b e => hd ⟨n, u, a, b, e⟩
  have HD := GR (wd R f 10 t _ (h.to t) hx)
  have HNO := GR (show dB f (61 :: t) from yS fun n u h10 => hx n u h10 h10)
  clear h hd hx
  go_enter Tryz.func146, Tryz.ntmps146
  go_wp2_with fail
  refine HN.out.mono ?_
  rintro e w1 ⟨rfl, rfl⟩
  go_wp2_with fail
  refine HD.out.mono ?_
  rintro e w2 ⟨⟨u, rfl⟩, ho⟩
  go_wp2_with fail
  exact ⟨rfl, .inr ⟨⟨_, rfl⟩, HNO.out, (Only.set R w 0 _).trans ho⟩⟩
theorem AS (n : Nat) (HI : fD n) (R f : Nat) (t : List UInt8) (w : World) (hs : t.length ≤ n) (hf : f ≤ 9) (h : Rdr w R (35 :: t) f) :
  Calls Tryz.prog 146 #[.pointer (some ⟨R, 0, none⟩)] w (eN R f (35 :: t) w) := by
 have HN := GR (dA R f 35 t w h)
 have HF := GR (uZ n HI R f t _ (by omega) hf (h.to t))
 clear h HI
 have k63 : ((tb [35]).toList == [63]) = false := by rw [an]; decide
 have k46 : ((tb [35]).toList == [46]) = false := by rw [an]; decide
 have k40 : ((tb [35]).toList == [40]) = false := by rw [an]; decide
 have k123 : ((tb [35]).toList == [123]) = false := by rw [an]; decide
 have k94 : ((tb [35]).toList == [94]) = false := by rw [an]; decide
 have k61 : ((tb [35]).toList == [61]) = false := by rw [an]; decide
 have k35 : ((tb [35]).toList == [35]) = true := by rw [an]; decide
 go_enter Tryz.func146, Tryz.ntmps146
 go_wp2_with fail
 refine HN.out.mono ?_
 rintro e w1 ⟨rfl, rfl⟩
 go_wp2_with fail
 refine HF.out.mono ?_
 rintro e w2 (⟨bs, r, v, hb, h0, h10, hbr, rfl, h1c, hrow, hr, ho⟩ | ⟨⟨u, rfl⟩, hno, ho⟩)
 ·obtain ⟨A, k, m, rfl, hrow⟩ := xr hrow
  have HROW := GR hrow
  have HL := GR hb
  have HBR := GR hbr
  have HR := GR hr
  have HO := GR ho
  clear hb hrow hr ho h1c hbr
  go_wp2_with fail
  go_ret
  refine .inl ⟨.pick bs, r, _, yT HL.out h0 h10 HBR.out, rfl, rfl, ?_, HR.out, (Only.set R w 0 _).trans HO.out⟩
  have := HROW.out
  rw [eF] at this
  obtain ⟨xs, h1, h2⟩ := this
  rw [ItemAt]
  exact ⟨_, xs, rfl, h1, h2⟩
 ·go_wp2_with fail
  exact ⟨rfl, .inr ⟨⟨_, rfl⟩, hno, (Only.set R w 0 _).trans ho⟩⟩
theorem C9 (n : Nat) (HI : fD n) (R f : Nat) (t : List UInt8) (w : World) (hs : t.length ≤ n) (hf : f ≤ 9) (h : Rdr w R (63 :: t) f) :
  Calls Tryz.prog 146 #[.pointer (some ⟨R, 0, none⟩)] w (eN R f (63 :: t) w) := by
 have HN := GR (dA R f 63 t w h)
 have k63 : ((tb [63]).toList == [63]) = true := by rw [an]; decide
 have k46 : ((tb [63]).toList == [46]) = false := by rw [an]; decide
 have k40 : ((tb [63]).toList == [40]) = false := by rw [an]; decide
 have k123 : ((tb [63]).toList == [123]) = false := by rw [an]; decide
 have k94 : ((tb [63]).toList == [94]) = false := by rw [an]; decide
 have k61 : ((tb [63]).toList == [61]) = false := by rw [an]; decide
 have k35 : ((tb [63]).toList == [35]) = false := by rw [an]; decide
 have hR := h.lt
 have hRt := h.to t
 clear h
 cases t with
 | nil =>
  have HN2 := GR (kL R f _ hRt)
  clear hRt HI
  go_enter Tryz.func146, Tryz.ntmps146
  go_wp2_with fail
  refine HN.out.mono ?_
  rintro e w1 ⟨rfl, rfl⟩
  go_wp2_with fail
  refine HN2.out.mono ?_
  rintro e w2 ⟨⟨u, rfl⟩, rfl⟩
  go_wp2_with fail
  exact ⟨rfl, .inr ⟨⟨_, rfl⟩, pr f, Only.set R w 0 _⟩⟩
 | cons c u =>
  have HN2 := GR (dA R f c u _ hRt)
  have hRu := hRt.to u
  have hul : u.length ≤ n + 1 := by simp at hs; omega
  clear hRt
  cases hl : a7 c with
  | false =>
   have HM := GR (fun W => yD R c W hl)
   have HNO := GR (om (f := f) (t := u) hl)
   clear hl hRu HI
   go_enter Tryz.func146, Tryz.ntmps146
   go_wp2_with fail
   refine HN.out.mono ?_
   rintro e w1 ⟨rfl, rfl⟩
   go_wp2_with fail
   refine HN2.out.mono ?_
   rintro e w2 ⟨rfl, rfl⟩
   go_wp2_with fail
   refine (HM.out _).mono ?_
   rintro e w3 ⟨⟨q, rfl⟩, rfl⟩
   go_wp2_with fail
   exact ⟨rfl, .inr ⟨⟨_, rfl⟩, HNO.out, (Only.set R w 0 _).trans (Only.set R _ 0 _)⟩⟩
  | true =>
   have HM := GR (fun W => vZ R c W hl)
   have HB1 := GR (ll n HI R f u _ hul hf hRu)
   have HB2 := GR (fun r W (hr : r.length ≤ n + 1) (k : Rdr W R r f) => ll n HI R f r W hr hf k)
   have HLT := GR hl
   clear hl hRu HI
   go_enter Tryz.func146, Tryz.ntmps146
   go_wp2_with fail
   refine HN.out.mono ?_
   rintro e w1 ⟨rfl, rfl⟩
   go_wp2_with fail
   refine HN2.out.mono ?_
   rintro e w2 ⟨rfl, rfl⟩
   go_wp2_with fail
   refine (HM.out _).mono ?_
   rintro e w3 ⟨rfl, rfl⟩
   go_wp2_with fail
   refine HB1.out.mono ?_
   rintro e w4 (⟨l, r, v, hb, rfl, _, hrow, hr, ho⟩ | ⟨⟨q, rfl⟩, hno, ho⟩)
   ·obtain ⟨A, k, m, rfl, hrow⟩ := eA hrow
    have HROW := GR hrow
    have HB := GR hb
    have HO := GR ho
    have HX := GR (HB2.out r w4 (by have := hb.shorter; omega) hr)
    clear hb hrow hr ho
    go_wp2_with fail
    refine HX.out.mono ?_
    rintro e w5 (⟨l2, r2, v2, hb2, rfl, _, hrow2, hr2, ho2⟩ | ⟨⟨q, rfl⟩, hno2, ho2⟩)
    ·obtain ⟨A2, k2, m2, rfl, hrow2⟩ := eA hrow2
     have HROW2 := GR hrow2
     have HBB := GR hb2
     have HR2 := GR hr2
     have HO2 := GR ho2
     clear hb2 hrow2 hr2 ho2
     go_wp2_with fail
     go_ret
     refine .inl ⟨.ask c l l2, r2, _, Cr HLT.out HB.out HBB.out (.inr trivial), rfl, rfl, ?_, HR2.out, (((Only.set R w 0 _).trans (Only.set R _ 0 _)).trans HO.out).trans HO2.out⟩
     have q1 := HROW.out
     rw [eF, eF] at q1
     obtain ⟨xs, h1, h2⟩ := q1.stay (AQ hR HO2.out)
     obtain ⟨ys, h3, h4⟩ := HROW2.out.stay (sL (w := w) (by have := HO.out.size; simpa using this))
     rw [ItemAt]
     exact ⟨_, _, xs, ys, rfl, h1, h2, h3, h4⟩
    ·go_wp2_with fail
     exact ⟨rfl, .inr ⟨⟨_, rfl⟩, wT HB.out hno2, (((Only.set R w 0 _).trans (Only.set R _ 0 _)).trans HO.out).trans ho2⟩⟩
   ·go_wp2_with fail
    exact ⟨rfl, .inr ⟨⟨_, rfl⟩, wS hno, ((Only.set R w 0 _).trans (Only.set R _ 0 _)).trans ho⟩⟩
theorem Da (R f : Nat) (c : UInt8) (t : List UInt8) (w : World) (h : Rdr w R (c :: t) f) (hc : c ≠ 63 ∧ c ≠ 46 ∧ c ≠ 40 ∧ c ≠ 123 ∧ c ≠ 94 ∧ c ≠ 61 ∧ c ≠ 35) :
  Calls Tryz.prog 146 #[.pointer (some ⟨R, 0, none⟩)] w (eN R f (c :: t) w) := by
 have HN := GR (dA R f c t w h)
 have HT := GR (h.to t)
 have k63 := md hc.1
 have k46 := md hc.2.1
 have k40 := md hc.2.2.1
 have k123 := md hc.2.2.2.1
 have k94 := md hc.2.2.2.2.1
 have k61 := md hc.2.2.2.2.2.1
 have k35 := md hc.2.2.2.2.2.2
 cases hl : a7 c with
 | true =>
  have HM := GR (fun W => vZ R c W hl)
  have HI := GR (Cp (f := f) (t := t) hl (.inr trivial))
  clear h hc hl
  go_enter Tryz.func146, Tryz.ntmps146
  go_wp2_with fail
  refine HN.out.mono ?_
  rintro e w1 ⟨rfl, rfl⟩
  go_wp2_with fail
  refine (HM.out _).mono ?_
  rintro e w2 ⟨rfl, rfl⟩
  go_wp2_with fail
  go_ret
  exact .inl ⟨.blk c, t, _, HI.out, rfl, rfl, by rw [ItemAt] <;> rfl, HT.out, Only.set R w 0 _⟩
 | false =>
  have HM := GR (fun W => yD R c W hl)
  have HNO := GR (Cq (f := f) (t := t) hl hc)
  clear h hc hl
  go_enter Tryz.func146, Tryz.ntmps146
  go_wp2_with fail
  refine HN.out.mono ?_
  rintro e w1 ⟨rfl, rfl⟩
  go_wp2_with fail
  refine (HM.out _).mono ?_
  rintro e w2 ⟨⟨u, rfl⟩, rfl⟩
  go_wp2_with fail
  exact ⟨rfl, .inr ⟨⟨_, rfl⟩, HNO.out, Only.set R w 0 _⟩⟩
theorem sN (R f : Nat) (w : World) (h : Rdr w R [] f) :
  Calls Tryz.prog 146 #[.pointer (some ⟨R, 0, none⟩)] w (eN R f [] w) := by
 have HN := GR (kL R f w h)
 clear h
 go_enter Tryz.func146, Tryz.ntmps146
 go_wp2_with fail
 refine HN.out.mono ?_
 rintro e w1 ⟨⟨u, rfl⟩, rfl⟩
 go_wp2_with fail
 exact ⟨rfl, .inr ⟨⟨_, rfl⟩, Fg f, Only.refl _ _⟩⟩
theorem Db (n : Nat) (HI : fD n) : AP (n + 1) := by
 intro R f s w hs hf h
 cases s with
 | nil => exact sN R f w h
 | cons c t =>
  have ht : t.length ≤ n := by simp at hs; omega
  by_cases e1 : c = 63
  ·subst e1; exact C9 n HI R f t w ht hf h
  by_cases e2 : c = 46
  ·subst e2; exact AR R f t w h
  by_cases e3 : c = 40
  ·subst e3; exact pL n HI R f t w ht hf h
  by_cases e4 : c = 123
  ·subst e4; exact qt n HI R f t w ht hf h
  by_cases e5 : c = 94
  ·subst e5; exact zr R f t w h
  by_cases e6 : c = 61
  ·subst e6; exact C8 R f t w h
  by_cases e7 : c = 35
  ·subst e7; exact AS n HI R f t w ht hf h
  exact Da R f c t w h ⟨e1, e2, e3, e4, e5, e6, e7⟩
theorem sO : ∀ n, n ≤ 1000 → fD n
 | 0, _ => sK 0 (by omega) fun R f s w hs hf h => by
  have : s = [] := List.eq_nil_of_length_eq_zero (by omega)
  subst this; exact sN R f w h
 | n + 1, hn => sK (n + 1) hn (Db n (sO n (by omega)))
end Go.Proofs.YtlkfakdghjaoaaaGreatDoor
namespace Go.Proofs.YtlkfakdghjaoaaaGreatDoor
open Go.RowKit Go.Sort
theorem o8 (B : Nat) (v0 v1 : Value) (u : TypeId) (pv : Value) (older : List PanicEntry) (w : World) (h0 : Blk w B 69 #[v0]) (h1 : Blk w (B + 1) 4 #[v1]) :
  CallsD Tryz.prog 97 #[.pointer (some ⟨B, 0, none⟩), .pointer (some ⟨B + 1, 0, none⟩)] (.panicking ({ v := .iface u pv, recovered := false } :: older)) w fun e u' w' =>
   e = .returned (.tuple #[]) ∧ u' = .panicking ({ v := .iface u pv, recovered := true } :: older) ∧ w' = (w.setCell ⟨B, 0, none⟩ (.slice none 0 0)).setCell ⟨B + 1, 0, none⟩ (.bool false) := by
 have c0 := h0.cell 0
 have f0 := h0.frozen 0
 have c1 : (w.setCell ⟨B, 0, none⟩ (.slice none 0 0)).cell? ⟨B + 1, 0, none⟩ = some v1 := (World.cell?_setCell_other w ⟨B, 0, none⟩ ⟨B + 1, 0, none⟩ _ (fun e => by injection e with e1 _; omega)).trans (h1.cell 0)
 have f1 : (w.setCell ⟨B, 0, none⟩ (.slice none 0 0)).frozen? ⟨B + 1, 0, none⟩ = false := by
  have := h1.frozen 0
  rw [← this]
  exact World.frozen?_of_block (Below.heap_setCell w ⟨B, 0, none⟩ _ (B + 1) (by show B + 1 ≠ B; omega))
 refine callsD_of_wpS Tryz.func97 rfl fun c₀ cs hu => ?_
 apply wpS_seq
 apply wpS_region
 simp [wpOpsS, go_sem, recoverD, hu, Tryz.ntmps97, Exit.thenS]
 refine wpS_cond (t := true) (by simp [Act.eval, Array.replicate]) ?_
 simp only [if_true]
 apply wpS_region
 simp [wpOpsS, go_sem, c0, f0, c1, f1, bodyPostS, results, Tryz.results97]
theorem zt (B : Nat) (w : World) :
  CallsD Tryz.prog 97 #[.pointer (some ⟨B, 0, none⟩), .pointer (some ⟨B + 1, 0, none⟩)] .returning w fun e u' w' => e = .returned (.tuple #[]) ∧ u' = .returning ∧ w' = w := by
 refine callsD_of_wpS Tryz.func97 rfl fun c₀ cs hu => ?_
 apply wpS_seq
 apply wpS_region
 simp [wpOpsS, go_sem, recoverD, hu, Tryz.ntmps97, Exit.thenS]
 refine wpS_cond (t := false) (by simp [Act.eval, Array.replicate]) ?_
 simp only [Bool.false_eq_true, if_false]
 refine wpS_of_wp (wp_skip ?_)
 cases c₀
 simp_all [bodyPostS, results, Tryz.results97]
theorem me {w w1 w2 : World} {B R : Nat} (h : Below B w w1) (k : Only R w1 w2) (hR : B ≤ R) (hB : B ≤ w1.heap.size) : Below B w w2 :=
 ⟨k.os.trans h.os, k.tape.trans h.tape, k.output.trans h.output, Nat.le_trans h.size k.size, fun i hi => (k.block i (by omega) (Nat.lt_of_lt_of_le hi hB)).trans (h.block i hi)⟩
theorem Blk.other {w : World} {B : Nat} {T : TypeId} {cs : Array Value} (h : Blk w B T cs) {R : Nat} (hne : B ≠ R) (i : Nat) (u : Value) : Blk (w.setCell ⟨R, i, none⟩ u) B T cs := (Below.heap_setCell w ⟨R, i, none⟩ u B hne).trans h
theorem Blk.only {w w' : World} {B : Nat} {T : TypeId} {cs : Array Value} (h : Blk w B T cs) {R : Nat} (ho : Only R w w') (hne : B ≠ R) : Blk w' B T cs := (ho.block B hne h.lt).trans h
theorem dE {w w1 : World} {B R : Nat} (h : Below B w w1) (hR : B ≤ R) (i : Nat) (u : Value) : Below B w (w1.setCell ⟨R, i, none⟩ u) :=
 ⟨h.os, h.tape, h.output, by simpa using h.size, fun k hk => (Below.heap_setCell w1 ⟨R, i, none⟩ u k (by show k ≠ R; omega)).trans (h.block k hk)⟩
def k7 (s : List UInt8) (w : World) (e : Ending) (w' : World) : Prop :=
 (∃ l v, bh s l ∧ e = .returned (.tuple #[v, .bool true]) ∧ v.oneCell' = true ∧ RowAt w' (bi w) l v ∧ Below w.heap.size w w') ∨
 ((∀ l, ¬ bh s l) ∧ e = .returned (.tuple #[.slice none 0 0, .bool false]) ∧ Below w.heap.size w w')
theorem u0 (s : List UInt8) (w : World) (hs : 200 < s.length) :
  Calls Tryz.prog 55 #[.string (tb s)] w (k7 s w) := by
 have hz : (tb s).size = s.length := aB s
 obtain ⟨x, hx⟩ : ∃ x, x = tb s := ⟨_, rfl⟩
 rw [← hx] at hz ⊢
 have q1 : decide ((200 : Int) < (x.size : Int)) = true := decide_eq_true (by omega)
 have q2 : 200 < x.size := by omega
 clear hx
 go_enter_defers Tryz.func55, Tryz.ntmps55
 go_wp2_with fail
 simp [bodyPostD, Leaves, results, Tryz.results55, go_sem]
 exact .inr ⟨fun l h => by have := h.1; omega, rfl, ((Below.refl _ w).alloc (Nat.le_refl _) _).alloc (by simp) _⟩
theorem uk (s : List UInt8) (w : World) (hs : s.length ≤ 200) :
  Calls Tryz.prog 55 #[.string (tb s)] w (k7 s w) := by
 have hz : (tb s).size = s.length := aB s
 have q1 : decide ((200 : Int) < ((tb s).size : Int)) = false := decide_eq_false (by omega)
 have q2 : ¬ 200 < (tb s).size := by omega
 have hmf : ∀ (fn : Fn) (first cap : Array Value) (w : World), (Instr.makeFunc fn first cap).run Tryz.prog w = .ok (.func fn first cap) w := fun _ _ _ _ => rfl
 have hB0 : Blk (((w.alloc (.cells #[.slice none 0 0] 69)).alloc (.cells #[.bool false] 4)).alloc (.cells #[.string (tb s), .int .i64 0] 143)) w.heap.size 69 #[.slice none 0 0] := ((Blk.new w 69 #[.slice none 0 0]).alloc _).alloc _
 have hB1 : Blk (((w.alloc (.cells #[.slice none 0 0] 69)).alloc (.cells #[.bool false] 4)).alloc (.cells #[.string (tb s), .int .i64 0] 143)) (w.heap.size + 1) 4 #[.bool false] := by
  have := (Blk.new (w.alloc (.cells #[.slice none 0 0] 69)) 4 #[.bool false]).alloc (.cells #[.string (tb s), .int .i64 0] 143)
  rw [World.size_alloc] at this; exact this
 have hR : Rdr (((w.alloc (.cells #[.slice none 0 0] 69)).alloc (.cells #[.bool false] 4)).alloc (.cells #[.string (tb s), .int .i64 0] 143)) (w.heap.size + 1 + 1) s 0 := by
  have := Blk.new ((w.alloc (.cells #[.slice none 0 0] 69)).alloc (.cells #[.bool false] 4)) 143 #[.string (tb s), .int .i64 0]
  rw [World.size_alloc, World.size_alloc] at this; exact this
 have hb : Below w.heap.size w (((w.alloc (.cells #[.slice none 0 0] 69)).alloc (.cells #[.bool false] 4)).alloc (.cells #[.string (tb s), .int .i64 0] 143)) := (((Below.refl _ w).alloc (Nat.le_refl _) _).alloc (by simp) _).alloc (by simp; omega) _
 obtain ⟨wB, hwB⟩ : ∃ wB, wB = ((w.alloc (.cells #[.slice none 0 0] 69)).alloc (.cells #[.bool false] 4)).alloc (.cells #[.string (tb s), .int .i64 0] 143) := ⟨_, rfl⟩
 have hwz : wB.heap.size = w.heap.size + 3 := by rw [hwB]; simp
 rw [← hwB] at hB0 hB1 hR hb
 have HIT := GR (sO 200 (by omega) (w.heap.size + 1 + 1) 0 s _ hs (by omega) hR)
 have HW := GR hwB
 rw [hwB] at HIT
 have HB0 := GR hB0
 have HB1 := GR hB1
 have HB := GR hb
 have HZ := GR hwz
 clear hwB hB0 hB1 hR hb hwz
 go_enter_defers Tryz.func55, Tryz.ntmps55
 go_wp2_with fail
 refine HIT.out.mono ?_
 rw [← HW.out]
 rintro e w2 (⟨l, r, v, hl, rfl, h1c, hrow, hr, ho⟩ | ⟨⟨u, rfl⟩, hno, ho⟩)
 ·obtain ⟨A, cp, m, rfl, hrow⟩ := eA hrow
  have hn2 : w.heap.size ≤ w2.heap.size := by have := ho.size; rw [HZ.out] at this; omega
  have k0 := HB0.out.only ho (by omega)
  have k1 := HB1.out.only ho (by omega)
  have c0 := k0.cell 0
  have f0 := k0.frozen 0
  have hr3 : Rdr (w2.setCell ⟨w.heap.size, 0, none⟩ (.slice A m cp)) (w.heap.size + 1 + 1) r 0 := Blk.other hr (by omega) 0 (.slice A m cp)
  have k03 := k0.set_ 0 (.slice A m cp)
  have k13 := k1.other (R := w.heap.size) (by omega) 0 (.slice A m cp)
  have c3 : (w2.setCell ⟨w.heap.size, 0, none⟩ (.slice A m cp)).cell? ⟨w.heap.size, 0, none⟩ = some (.slice A m cp) := k03.cell 0
  have f3 := k03.frozen 0
  cases r with
  | nil =>
   have HE := GR (EW (w.heap.size + 1 + 1) 0 _ hr3)
   have k04 := k03.set_ 0 (.slice A m cp)
   have k14 := k13.other (R := w.heap.size) (by omega) 0 (.slice A m cp)
   have f14 := k14.frozen 0
   have c14 : ((w2.setCell ⟨w.heap.size, 0, none⟩ (.slice A m cp)).setCell ⟨w.heap.size, 0, none⟩ (.slice A m cp)).cell? ⟨w.heap.size + 1, 0, none⟩ = some (.bool false) := k14.cell 0
   have k05 := k04.other (R := w.heap.size + 1) (by omega) 0 (.bool true)
   have k15 := k14.set_ 0 (.bool true)
   have d0 : (((w2.setCell ⟨w.heap.size, 0, none⟩ (.slice A m cp)).setCell ⟨w.heap.size, 0, none⟩ (.slice A m cp)).setCell ⟨w.heap.size + 1, 0, none⟩ (.bool true)).cell? ⟨w.heap.size, 0, none⟩ = some (.slice A m cp) := k05.cell 0
   have d1 : (((w2.setCell ⟨w.heap.size, 0, none⟩ (.slice A m cp)).setCell ⟨w.heap.size, 0, none⟩ (.slice A m cp)).setCell ⟨w.heap.size + 1, 0, none⟩ (.bool true)).cell? ⟨w.heap.size + 1, 0, none⟩ = some (.bool true) := k15.cell 0
   have HL := GR hl
   have HROW := GR hrow
   have HO := GR ho
   clear hl hrow hr ho h1c hr3 k03 k13 k0 k1 k04 k14 k05 k15
   go_wp2_with fail
   refine HE.out.mono ?_
   rintro e w3 ⟨rfl, rfl⟩
   go_wp2_with fail
   refine leaves_cons (f := 97) (args := #[.pointer (some ⟨w.heap.size, 0, none⟩), .pointer (some ⟨w.heap.size + 1, 0, none⟩)]) (by simp) (by simp [go_sem]) ?_
   refine (zt w.heap.size _).mono ?_
   rintro e u' w'' ⟨rfl, rfl, rfl⟩
   simp [Leaves, settle, results, Tryz.results55, go_sem, d0, d1]
   refine .inl ⟨l, _, jm.2 ⟨hs, HL.out⟩, rfl, rfl, ?_, dE (dE (dE (me HB.out HO.out (by omega) (by rw [HZ.out]; omega)) (Nat.le_refl _) 0 _) (Nat.le_refl _) 0 _) (by omega) 0 _⟩
   exact (((HROW.out.stay (gP (R := w.heap.size) (by rw [HZ.out]; omega) 0 _)).stay (gP (R := w.heap.size) (by rw [HZ.out]; omega) 0 _)).stay (gP (R := w.heap.size + 1) (by rw [HZ.out]; omega) 0 _)).stay (sL (by rw [HZ.out]; omega))
  | cons c t =>
   have HE := GR (FJ (w.heap.size + 1 + 1) 0 c t _ hr3)
   have HNO := GR (fun l' => x8 (l' := l') hl (by simp))
   have HO := GR ho
   have K0 := GR k03
   have K1 := GR k13
   have k04 := k03.set_ 0 (.slice none 0 0)
   have k14 := k13.other (R := w.heap.size) (by omega) 0 (.slice none 0 0)
   have k05 := k04.other (R := w.heap.size + 1) (by omega) 0 (.bool false)
   have k15 := k14.set_ 0 (.bool false)
   have d0 : (((w2.setCell ⟨w.heap.size, 0, none⟩ (.slice A m cp)).setCell ⟨w.heap.size, 0, none⟩ (.slice none 0 0)).setCell ⟨w.heap.size + 1, 0, none⟩ (.bool false)).cell? ⟨w.heap.size, 0, none⟩ = some (.slice none 0 0) := k05.cell 0
   have d1 : (((w2.setCell ⟨w.heap.size, 0, none⟩ (.slice A m cp)).setCell ⟨w.heap.size, 0, none⟩ (.slice none 0 0)).setCell ⟨w.heap.size + 1, 0, none⟩ (.bool false)).cell? ⟨w.heap.size + 1, 0, none⟩ = some (.bool false) := k15.cell 0
   clear hl hrow hr ho h1c hr3 k03 k13 k0 k1 k04 k14 k05 k15
   go_wp2_with fail
   refine HE.out.mono ?_
   rintro e w3 ⟨⟨u, rfl⟩, rfl⟩
   go_wp2_with fail
   refine leaves_cons (f := 97) (args := #[.pointer (some ⟨w.heap.size, 0, none⟩), .pointer (some ⟨w.heap.size + 1, 0, none⟩)]) (by simp) (by simp [go_sem]) ?_
   refine (o8 w.heap.size _ _ _ _ [] _ K0.out K1.out).mono ?_
   rintro e u' w'' ⟨rfl, rfl, rfl⟩
   simp [Leaves, settle, results, Tryz.results55, go_sem, d0, d1]
   exact .inr ⟨HNO.out, rfl, dE (dE (dE (me HB.out HO.out (by omega) (by rw [HZ.out]; omega)) (Nat.le_refl _) 0 _) (Nat.le_refl _) 0 _) (by omega) 0 _⟩
 ·have k0 := HB0.out.only ho (by omega)
  have k1 := HB1.out.only ho (by omega)
  have K0 := GR k0
  have K1 := GR k1
  have HNO := GR (fun l' => F8 (l := l') hno)
  have HO := GR ho
  have k04 := k0.set_ 0 (.slice none 0 0)
  have k14 := k1.other (R := w.heap.size) (by omega) 0 (.slice none 0 0)
  have k05 := k04.other (R := w.heap.size + 1) (by omega) 0 (.bool false)
  have k15 := k14.set_ 0 (.bool false)
  have d0 : ((w2.setCell ⟨w.heap.size, 0, none⟩ (.slice none 0 0)).setCell ⟨w.heap.size + 1, 0, none⟩ (.bool false)).cell? ⟨w.heap.size, 0, none⟩ = some (.slice none 0 0) := k05.cell 0
  have d1 : ((w2.setCell ⟨w.heap.size, 0, none⟩ (.slice none 0 0)).setCell ⟨w.heap.size + 1, 0, none⟩ (.bool false)).cell? ⟨w.heap.size + 1, 0, none⟩ = some (.bool false) := k15.cell 0
  clear hno ho k0 k1 k04 k14 k05 k15
  go_wp2_with fail
  refine leaves_cons (f := 97) (args := #[.pointer (some ⟨w.heap.size, 0, none⟩), .pointer (some ⟨w.heap.size + 1, 0, none⟩)]) (by simp) (by simp [go_sem]) ?_
  refine (o8 w.heap.size _ _ _ _ [] _ K0.out K1.out).mono ?_
  rintro e u' w'' ⟨rfl, rfl, rfl⟩
  simp [Leaves, settle, results, Tryz.results55, go_sem, d0, d1]
  exact .inr ⟨HNO.out, rfl, dE (dE (me HB.out HO.out (by omega) (by rw [HZ.out]; omega)) (Nat.le_refl _) 0 _) (by omega) 0 _⟩
theorem k8 (s : List UInt8) (w : World) : Calls Tryz.prog 55 #[.string (tb s)] w (k7 s w) := by
 by_cases h : s.length ≤ 200
 ·exact uk s w h
 ·exact u0 s w (by omega)
end Go.Proofs.YtlkfakdghjaoaaaGreatDoor
