/-
  Proved: the law FnExactKnotsOf returns true for every slice of blocks and leaves it as it was, with no condition on the input.
-/
import Derived.Test.YtibjldngdhcpaaaKnotsOf
import Derived.Test.YtibjldngdhcpaaaPruneFacts
import Derived.Test.YtibjldngdhcpaaaHeldK
import Derived.Test.YtibjldngdhcpaaaMark
import Derived.Test.YtibjldngdhcpaaaValids
namespace Go.Proofs.Ytibjldngdhcpaaa
open Go.ChangeShapes Go.WideShapes Go.ChangeAt Go.RowKit Go.Deep

theorem only_below {B n : Nat} {w w' : World} (h : Only B w w') (h1 : n ≤ B) (h2 : n ≤ w.heap.size) : Below n w w' :=
  ⟨h.os, h.tape, h.output, h.size, fun k hk => h.block k (by omega) (by omega)⟩
theorem OwnGr.below' {w w' : World} {B : Nat} {g : List Bl} (h : OwnGr w B g) (hb : Below w.heap.size w w') : OwnGr w' B g := by
  obtain ⟨cs, t, hk, hc⟩ := h
  exact ⟨cs, t, hk.below hb hk.lt, hc⟩
theorem OwnGr.only' {w w' : World} {B R : Nat} {g : List Bl} (h : OwnGr w B g) (hb : Only R w w') (hne : B ≠ R) : OwnGr w' B g := by
  obtain ⟨cs, t, hk, hc⟩ := h
  exact ⟨cs, t, (hb.block B hne hk.lt).trans hk, hc⟩
theorem OwnGr.lt' {w : World} {B : Nat} {g : List Bl} (h : OwnGr w B g) : B < w.heap.size := by
  obtain ⟨cs, t, hk, hc⟩ := h
  exact hk.lt
theorem OwnGr.mark {w : World} {B : Nat} {g : List Bl} (h : OwnGr w B g) (hl : g.length ≤ 1048576) :
    Calls Try.prog 21 #[.slice (some ⟨B, 0, none⟩) g.length g.length, .int .i64 1] w (MarkPost B 1 (g.length * 2) w) := by
  obtain ⟨cs, t, hk, hc⟩ := h
  refine mark_any' B g.length t cs w hk ?_ hl
  by_cases h0 : g.length = 0
  · omega
  · obtain ⟨_, h2⟩ := hc (g.length - 1) (by omega)
    rcases Nat.lt_or_ge ((g.length - 1) * 2 + 1) cs.size with h | h
    · omega
    · rw [Array.getElem?_eq_none h] at h2; cases h2

theorem OwnGr.markK {w : World} {B cp : Nat} {g : List Bl} (h : OwnGr w B g) (hl : g.length ≤ 1048576) :
    Calls Try.prog 22 #[.slice (some ⟨B, 0, none⟩) g.length cp, .int .i64 1] w (MarkPost B 1 (g.length * 2) w) := by
  obtain ⟨cs, t, hk, hc⟩ := h
  refine markK_any' B g.length t cs w hk ?_ hl
  by_cases h0 : g.length = 0
  · omega
  · obtain ⟨_, h2⟩ := hc (g.length - 1) (by omega)
    rcases Nat.lt_or_ge ((g.length - 1) * 2 + 1) cs.size with h | h
    · omega
    · rw [Array.getElem?_eq_none h] at h2; cases h2

theorem mark_nil (w : World) : Calls Try.prog 22 #[.slice none 0 0, .int .i64 1] w fun e w' => e = .returned (.int .i64 1) ∧ w = w' := by
  go_enter Try.func22, Try.ntmps22
  go_wp2
  go_loop [1, 5] (fun x i => x = .int .i64 ((1 : Nat) : Int) ∧ i = .int .i64 ((0 : Nat) : Int)) (fun _ _ => 0)
  case atStart => exact ⟨rfl, rfl⟩
  case round =>
    obtain ⟨rfl, rfl⟩ := hrel
    go_wp2
    go_ret
    exact ⟨rfl, rfl⟩

theorem held_nil (w : World) : Calls Try.prog 23 #[.slice none 0 0, .int .i64 1] w fun e w' => e = .returned (.int .i64 1) ∧ w = w' := by
  go_enter Try.func23, Try.ntmps23
  go_wp2
  go_loop [1, 5] (fun x i => x = .int .i64 ((1 : Nat) : Int) ∧ i = .int .i64 ((0 : Nat) : Int)) (fun _ _ => 0)
  case atStart => exact ⟨rfl, rfl⟩
  case round =>
    obtain ⟨rfl, rfl⟩ := hrel
    go_wp2
    go_ret
    exact ⟨rfl, rfl⟩

set_option maxRecDepth 100000 in
set_option maxHeartbeats 3200000 in
theorem exKnotsOf_yes (A : Option Addr) (cap : Nat) (g : List Bl) (w : World) (hg : Gr w A g) (hn : g.length + tot g ≤ 1048576) (hv : validB g = true) :
    Calls Try.prog 4 #[.slice A g.length cap] w fun e w' => e = .returned (.bool true) ∧ Below w.heap.size w w' := by
  have hnn : ¬ ((1048576 : Int) - g.length - tot g < 0) := by omega
  obtain ⟨pg, hpg⟩ : ∃ pg, pg = knotsG g := ⟨_, rfl⟩
  have hpl : pg.length ≤ 1048576 := by
    rw [hpg]
    unfold knotsG
    rw [List.length_map, pruneG_length, reachS_srt]
    have := srt_len g (reach g) g.length; omega
  have HQ : Hid (eqG g g = true) := eqG_iff.2 rfl
  have HQ2 : Hid (eqG pg pg = true) := eqG_iff.2 rfl
  have hpos : 0 < pg.length := by
    rw [hpg]
    unfold knotsG
    rw [List.length_map, pruneG_length]
    exact (reachS_first hv).1
  have H1 := Lib.hid (fun A cap w (h1 : Gr w A g) (h2 : g.length ≤ cap) => (specKnotsOf_any A cap g w h1 hn h2).mono fun e w' h => show ∃ v, e = .returned (.tuple #[v, .bool true]) ∧ OwnKn w' w.heap.size v pg ∧ Below w.heap.size w w' from by
    unfold KnotsPost knotsV at h
    rw [if_pos hv, hv, ← hpg] at h
    exact h)
  have H2 := Lib.hid (fun A cap w (h1 : Gr w A g) => (implKnotsOf_any A cap g w h1 hn).mono fun e w' h => show ∃ B c7, w.heap.size ≤ B ∧ e = .returned (.tuple #[.slice (some ⟨B, 0, none⟩) pg.length c7, .bool true]) ∧ OwnGr w' B pg ∧ Below w.heap.size w w' from by
    unfold KnotsPost knotsV at h
    rw [if_pos hv, hv, ← hpg] at h
    obtain ⟨v, e1, e2, e3⟩ := h
    rcases ownK_cases e2 with ⟨_, h0⟩ | ⟨B, c7, rfl, hB, ho⟩
    · rw [h0] at hpos; simp at hpos
    · exact ⟨B, c7, hB, e1, ho, e3⟩)
  clear hpg hv hpos
  go_enter Try.func4, Try.ntmps4
  go_wp2_with fail
  refine (szS_small A cap g _ hg hn).mono ?_
  rintro e w1 ⟨rfl, b1⟩
  have HB1 := Lib.hid b1
  have g1 := hg.below b1
  clear b1
  go_wp2_with fail
  refine (toS_any A cap g _ g1 hn).mono ?_
  rintro e w2 ⟨rfl, o2, b2⟩
  have HB2 := Lib.hid (below_trans_self HB1.out b2)
  have g2 := g1.below b2
  clear b2
  go_wp2_with fail
  refine (H1.out _ _ _ o2.gr (Nat.le_refl _)).mono ?_
  rintro e w3 ⟨v4, rfl, ow4, b3⟩
  obtain ⟨A4, c4, rfl, hc4, q3⟩ := ownK_gr ow4
  have HB3 := Lib.hid (below_trans_self HB2.out b3)
  have HT3 : Hid (Below w3.heap.size w3 w3) := Below.refl _ _
  have HQ3 := Lib.hid q3
  have HG := Lib.hid hg
  clear b3 ow4 o2 q3 hg g1 g2
  go_wp2_with fail
  refine (toS_any A cap g _ (HG.out.below HB3.out) hn).mono ?_
  rintro e w4 ⟨rfl, o4, b4⟩
  have HO4 := Lib.hid o4
  have hs4 := o4.lt'
  clear o4
  have HB4 := Lib.hid (HB3.out.trans (b4.mono HB3.out.size))
  have HT4 := Lib.hid (HT3.out.trans (b4.mono HT3.out.size))
  clear b4
  go_wp2_with fail
  refine (H2.out _ _ _ HO4.out.gr).mono ?_
  rintro e w5 ⟨B7, c7, hB7, rfl, o7, b5⟩
  have HP5 := Lib.hid o7
  have HO5 := Lib.hid (HO4.out.below' b5)
  have hne : B7 ≠ w3.heap.size := by omega
  clear o7
  have HB5 := Lib.hid (HB4.out.trans (b5.mono HB4.out.size))
  have HT5 := Lib.hid (HT4.out.trans (b5.mono HT4.out.size))
  clear b5
  go_wp2_with fail
  refine (eqKS_any _ _ _ _ pg pg _ HP5.out.gr (HQ3.out.below HT5.out) (by omega) (by omega)).mono ?_
  rintro e w6 ⟨rfl, b6⟩
  rw [HQ2.out]
  have HB6 := Lib.hid (HB5.out.trans (b6.mono HB5.out.size))
  have HT6 := Lib.hid (HT5.out.trans (b6.mono HT5.out.size))
  have HO6 := Lib.hid (HO5.out.below' b6)
  have HP6 := Lib.hid (HP5.out.below' b6)
  clear b6
  go_wp2_with fail
  refine (toS_any A cap g _ (HG.out.below HB6.out) hn).mono ?_
  rintro e w7 ⟨rfl, o7, b7⟩
  have HB7 := Lib.hid (HB6.out.trans (b7.mono HB6.out.size))
  have HT7 := Lib.hid (HT6.out.trans (b7.mono HT6.out.size))
  have HO7 := Lib.hid (HO6.out.below' b7)
  have HP7 := Lib.hid (HP6.out.below' b7)
  clear b7
  go_wp2_with fail
  refine (eqS_any _ _ _ _ g g _ HO7.out.gr o7.gr (by omega) (by omega)).mono ?_
  rintro e w8 ⟨rfl, b8⟩
  rw [HQ.out]
  have HM := Lib.hid ((HO7.out.below' b8).mark (by omega))
  have HB8 := Lib.hid (HB7.out.trans (b8.mono HB7.out.size))
  have HT8 := Lib.hid (HT7.out.trans (b8.mono HT7.out.size))
  have HP8 := Lib.hid (HP7.out.below' b8)
  clear b8
  go_wp2_with fail
  refine HM.out.mono ?_
  rintro e w9 ⟨rfl, _, om⟩
  have HB9 := Lib.hid (HB8.out.trans (only_below om HB3.out.size HB8.out.size))
  have HT9 := Lib.hid (HT8.out.trans (only_below om (Nat.le_refl _) HT8.out.size))
  have HP9 := Lib.hid (HP8.out.only' om hne)
  clear om o7
  go_wp2_with fail
  refine (eqKS_any _ _ _ _ pg pg _ HP9.out.gr (HQ3.out.below HT9.out) (by omega) (by omega)).mono ?_
  rintro e w10 ⟨rfl, b10⟩
  rw [HQ2.out]
  have HM2 := Lib.hid ((HP9.out.below' b10).markK (cp := c7) (by omega))
  have HB10 := Lib.hid (HB9.out.trans (b10.mono HB9.out.size))
  have HT10 := Lib.hid (HT9.out.trans (b10.mono HT9.out.size))
  clear b10
  go_wp2_with fail
  refine HM2.out.mono ?_
  rintro e w11 ⟨rfl, ⟨cs7, t7, hblk, hmk⟩, om⟩
  have h3s := HT10.out.size
  have HB11 := Lib.hid (HB10.out.trans (only_below om (Nat.le_trans HB3.out.size (by omega)) HB10.out.size))
  have HT11 := Lib.hid (HT10.out.trans (only_below om (by omega) HT10.out.size))
  have HBK := Lib.hid hblk
  have HMK := Lib.hid hmk
  clear om hblk hmk
  go_wp2_with fail
  refine (heldK_any B7 pg.length t7 cs7 w11 HBK.out HMK.out (by omega)).mono ?_
  rintro e w12 ⟨rfl, b12⟩
  have HBK12 := Lib.hid (HBK.out.below b12 HBK.out.lt)
  have HB12 := Lib.hid (HB11.out.trans (b12.mono HB11.out.size))
  have HT12 := Lib.hid (HT11.out.trans (b12.mono HT11.out.size))
  clear b12
  go_wp2_with fail
  refine (toS_any A cap g _ (HG.out.below HB12.out) hn).mono ?_
  rintro e w13 ⟨rfl, o13, b13⟩
  have HBK13 := Lib.hid (HBK12.out.below b13 HBK12.out.lt)
  have HB13 := Lib.hid (HB12.out.trans (b13.mono HB12.out.size))
  have HT13 := Lib.hid (HT12.out.trans (b13.mono HT12.out.size))
  clear b13
  go_wp2_with fail
  refine (H2.out _ _ _ o13.gr).mono ?_
  rintro e w14 ⟨B12, c12, h12, rfl, o14, b14⟩
  have HBK14 := Lib.hid (HBK13.out.below b14 HBK13.out.lt)
  have HB14 := Lib.hid (HB13.out.trans (b14.mono HB13.out.size))
  have HT14 := Lib.hid (HT13.out.trans (b14.mono HT13.out.size))
  clear b14
  go_wp2_with fail
  refine (eqKS_any _ _ _ _ pg pg _ o14.gr (HQ3.out.below HT14.out) (by omega) (by omega)).mono ?_
  rintro e w15 ⟨rfl, b15⟩
  rw [HQ2.out]
  have HBK15 := Lib.hid (HBK14.out.below b15 HBK14.out.lt)
  clear o14 o13
  have HB15 := Lib.hid (HB14.out.trans (b15.mono HB14.out.size))
  have HT15 := Lib.hid (HT14.out.trans (b15.mono HT14.out.size))
  clear b15
  go_wp2_with fail
  refine (heldK_any B7 pg.length t7 cs7 w15 HBK15.out HMK.out (by omega)).mono ?_
  rintro e w16 ⟨rfl, b16⟩
  have HB16 := Lib.hid (HB15.out.trans (b16.mono HB15.out.size))
  have HT16 := Lib.hid (HT15.out.trans (b16.mono HT15.out.size))
  clear b16
  go_wp2_with fail
  go_ret
  exact ⟨rfl, HB16.out⟩

set_option maxRecDepth 100000 in
set_option maxHeartbeats 3200000 in
theorem exKnotsOf_no (A : Option Addr) (cap : Nat) (g : List Bl) (w : World) (hg : Gr w A g) (hn : g.length + tot g ≤ 1048576) (hv : validB g = false) :
    Calls Try.prog 4 #[.slice A g.length cap] w fun e w' => e = .returned (.bool true) ∧ Below w.heap.size w w' := by
  have hnn : ¬ ((1048576 : Int) - g.length - tot g < 0) := by omega
  have HQ : Hid (eqG g g = true) := eqG_iff.2 rfl
  have H1 := Lib.hid (fun A cap w (h1 : Gr w A g) (h2 : g.length ≤ cap) => (specKnotsOf_any A cap g w h1 hn h2).mono fun e w' h => show ∃ v, e = .returned (.tuple #[v, .bool false]) ∧ OwnKn w' w.heap.size v [] ∧ Below w.heap.size w w' from by
    unfold KnotsPost knotsV at h
    rw [if_neg (by rw [hv]; simp), hv] at h
    exact h)
  have H2 := Lib.hid (fun A cap w h1 => implKnotsOf_no A cap g w h1 hn hv)
  have HE : Hid (∀ A4 c4 w, Calls Try.prog 15 #[.slice none 0 0, .slice A4 0 c4] w fun e w' => e = .returned (.bool true) ∧ Below w.heap.size w w') := fun A4 c4 w => eqKS_any none A4 0 c4 [] [] w (Gr.nil _ _) (Gr.nil _ _) (by decide) (by decide)
  have HG := Lib.hid hg
  clear hv hg
  go_enter Try.func4, Try.ntmps4
  go_wp2_with fail
  refine (szS_small A cap g _ HG.out hn).mono ?_
  rintro e w1 ⟨rfl, b1⟩
  have HB1 := Lib.hid b1
  clear b1
  go_wp2_with fail
  refine (toS_any A cap g _ (HG.out.below HB1.out) hn).mono ?_
  rintro e w2 ⟨rfl, o2, b2⟩
  have HB2 := Lib.hid (HB1.out.trans (b2.mono HB1.out.size))
  clear b2
  go_wp2_with fail
  refine (H1.out _ _ _ o2.gr (Nat.le_refl _)).mono ?_
  rintro e w3 ⟨v4, rfl, ow4, b3⟩
  obtain ⟨A4, c4, hv4, _, _⟩ := ownK_gr ow4
  have hv4' : v4 = .slice A4 0 c4 := hv4
  subst hv4'
  clear ow4 o2 hv4
  have HB3 := Lib.hid (HB2.out.trans (b3.mono HB2.out.size))
  clear b3
  go_wp2_with fail
  refine (toS_any A cap g _ (HG.out.below HB3.out) hn).mono ?_
  rintro e w4 ⟨rfl, o4, b4⟩
  have HO4 := Lib.hid o4
  clear o4
  have HB4 := Lib.hid (HB3.out.trans (b4.mono HB3.out.size))
  clear b4
  go_wp2_with fail
  refine (H2.out _ _ _ HO4.out.gr).mono ?_
  rintro e w5 ⟨rfl, b5⟩
  have HO5 := Lib.hid (HO4.out.below' b5)
  have HB5 := Lib.hid (HB4.out.trans (b5.mono HB4.out.size))
  clear b5
  go_wp2_with fail
  refine (HE.out A4 c4 _).mono ?_
  rintro e w6 ⟨rfl, b6⟩
  have HO6 := Lib.hid (HO5.out.below' b6)
  have HB6 := Lib.hid (HB5.out.trans (b6.mono HB5.out.size))
  clear b6
  go_wp2_with fail
  refine (toS_any A cap g _ (HG.out.below HB6.out) hn).mono ?_
  rintro e w7 ⟨rfl, o7, b7⟩
  have HO7 := Lib.hid (HO6.out.below' b7)
  have HB7 := Lib.hid (HB6.out.trans (b7.mono HB6.out.size))
  clear b7
  go_wp2_with fail
  refine (eqS_any _ _ _ _ g g _ HO7.out.gr o7.gr (by omega) (by omega)).mono ?_
  rintro e w8 ⟨rfl, b8⟩
  rw [HQ.out]
  have HM := Lib.hid ((HO7.out.below' b8).mark (by omega))
  have HB8 := Lib.hid (HB7.out.trans (b8.mono HB7.out.size))
  clear b8
  go_wp2_with fail
  refine HM.out.mono ?_
  rintro e w9 ⟨rfl, _, om⟩
  have HB9 := Lib.hid (HB8.out.trans (only_below om HB3.out.size HB8.out.size))
  clear om o7
  go_wp2_with fail
  refine (HE.out A4 c4 _).mono ?_
  rintro e w10 ⟨rfl, b10⟩
  have HB10 := Lib.hid (HB9.out.trans (b10.mono HB9.out.size))
  clear b10
  go_wp2_with fail
  refine (mark_nil _).mono ?_
  rintro e w11 ⟨rfl, rfl⟩
  go_wp2_with fail
  refine (held_nil _).mono ?_
  rintro e w12 ⟨rfl, rfl⟩
  go_wp2_with fail
  refine (toS_any A cap g _ (HG.out.below HB10.out) hn).mono ?_
  rintro e w13 ⟨rfl, o13, b13⟩
  have HB13 := Lib.hid (HB10.out.trans (b13.mono HB10.out.size))
  clear b13
  go_wp2_with fail
  refine (H2.out _ _ _ o13.gr).mono ?_
  rintro e w14 ⟨rfl, b14⟩
  have HB14 := Lib.hid (HB13.out.trans (b14.mono HB13.out.size))
  clear b14
  go_wp2_with fail
  refine (HE.out A4 c4 _).mono ?_
  rintro e w15 ⟨rfl, b15⟩
  have HB15 := Lib.hid (HB14.out.trans (b15.mono HB14.out.size))
  clear b15
  go_wp2_with fail
  refine (held_nil _).mono ?_
  rintro e w16 ⟨rfl, rfl⟩
  go_wp2_with fail
  go_ret
  exact ⟨rfl, HB15.out⟩

set_option maxRecDepth 100000 in
theorem exKnotsOf_walk (A : Option Addr) (cap : Nat) (g : List Bl) (w : World) (hg : Gr w A g) (hl : g.length ≤ 9223372036854775807) (hz : ∀ b ∈ g, b.1.size ≤ 9223372036854775807 ∧ b.2.size ≤ 9223372036854775807) :
    Calls Try.prog 4 #[.slice A g.length cap] w fun e w' => e = .returned (.bool true) ∧ Below w.heap.size w w' := by
  by_cases hn : g.length + tot g ≤ 1048576
  · cases hv : validB g with
    | true => exact exKnotsOf_yes A cap g w hg hn hv
    | false => exact exKnotsOf_no A cap g w hg hn hv
  · have HZ := Lib.hid hz
    clear hz
    go_enter Try.func4, Try.ntmps4
    go_wp2_with fail
    refine (szS_big A cap g _ hg hn hl HZ.out).mono ?_
    rintro e w1 ⟨rfl, b1⟩
    go_wp2_with fail
    go_ret
    exact ⟨rfl, b1⟩

set_option maxRecDepth 100000 in
theorem exKnotsOf_lifted (os : Os) (started : os.Started) (H : Type) (enc : TypeId × Value → H) :
    ReturnsInHanded {} Try.checked os 4 .any (Rows.fnExactKnotsOfSpec.pre6 enc Try.prog Try.f4 Rows.fnExactKnotsOfRow.domain false) (Rows.fnExactKnotsOfSpec.post enc Try.prog Try.f4 false true false false) := by
  refine returnsInHanded_of_change (C := Try.checked) own started (by kernel_rfl) Try.func4
    (ChangeSpec.witness6 (enc := enc) (C := Try.checked) false ⟨#[], #[.slice none 0 0], []⟩ 8 (by kernel_rfl) (by kernel_rfl) (by kernel_rfl) (by kernel_rfl)) ?_
  intro W base args ds gs before hval0 hW _ _
  have hval : ∀ (j : Nat) t v, Try.f4.params[j]? = some t → args[j]? = some v → Value.okWide Try.prog W .any base t v := hval0
  have hW' := hW
  obtain ⟨p, q, hA0, hV, rfl, _, _⟩ := hW
  have hA : DataW.TrodAll enc Try.prog W 0 (fun _ => true) true Try.f4.params.toList args.toList ds p := hA0
  rw [Try.params4] at hA hval
  obtain ⟨v0, d0, rfl, rfl, h0⟩ := trodAll_one hA
  obtain ⟨rfl, rfl⟩ := trodVars_none hV
  have h0k := h0
  clear hA0 hval0
  simp only [List.append_nil] at hW'
  have hlt : ∀ x ∈ p, x.block < W.heap.size := fun x hx => by simpa using hW'.lt x hx
  obtain ⟨A, cap, g, rfl, _, hl, hg, hz⟩ := open_blocks (hval 0 29 v0 rfl rfl) h0 hlt
  refine (exKnotsOf_walk A cap g W hg hl hz).mono fun e W' ⟨he, hB⟩ => ?_
  subst he
  refine ⟨_, rfl, _, _, _, [] ++ [], p, [], hW', ?_, ?_, rfl, hB.frame _, fun h => by cases h⟩
  · exact trodAll_mk1 (shut_bool Try.underlying4 true)
  · exact trodAll_mk1 (Below.trod laidOut (by kernel_rfl) (of_decide_eq_true (by kernel_rfl)) h0k hB hlt)

theorem exKnotsOf_holds : Rows.FnExactKnotsOfSaid :=
  OpenClaim.holds_of_wide 4 Try.f4 rfl rfl rfl rfl rfl rfl rfl ⟨rfl, rfl, rfl, rfl, rfl⟩ rfl rfl rfl rfl rfl (by kernel_rfl) Try.func4 (by kernel_rfl)
    (of_decide_eq_true (by kernel_rfl)) (by unfold Func.isWrapper; first | (rw [if_pos (by decide +kernel)]; kernel_rfl) | (rw [if_neg (by decide +kernel)]; exact ⟨rfl, rfl⟩))
    (fun os started H enc _ => exKnotsOf_lifted os started H enc)
#print axioms exKnotsOf_holds
end Go.Proofs.Ytibjldngdhcpaaa
