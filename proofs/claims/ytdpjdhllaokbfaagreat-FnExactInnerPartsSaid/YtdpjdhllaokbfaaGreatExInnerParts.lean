/-
  Proved: the law FnExactInnerParts returns true for every slice of blocks and every string and leaves both as they were, with no condition on the input.
-/
import Derived.Test.YtdpjdhllaokbfaaGreatSpecInnerOf
import Derived.Test.YtdpjdhllaokbfaaGreatStrLists
import Derived.Test.YtdpjdhllaokbfaaGreatValids
namespace Go.Proofs.YtdpjdhllaokbfaaGreat
open Go.ChangeShapes Go.WideShapes Go.ChangeAt Go.RowKit Go.Deep

def ListPost (ps : List ByteArray) (ok : Bool) (w : World) (e : Ending) (w' : World) : Prop :=
  ∃ v, e = .returned (.tuple #[v, .bool ok]) ∧ OwnStr w' w.heap.size v ps ∧ Below w.heap.size w w'

set_option maxRecDepth 100000 in
set_option maxHeartbeats 3200000 in
theorem exInnerParts_walk (A : Option Addr) (cap : Nat) (g : List Bl) (s : ByteArray) (w : World) (hg : Gr w A g) (hl : g.length ≤ 9223372036854775807) (hz : ∀ b ∈ g, b.1.size ≤ 9223372036854775807 ∧ b.2.size ≤ 9223372036854775807) :
    Calls Tryz.prog 6 #[.slice A g.length cap, .string s] w fun e w' => e = .returned (.bool true) ∧ Below w.heap.size w w' := by
  by_cases hsl : (1048576 : Int) < s.size
  · clear hz
    go_enter Tryz.func6, Tryz.ntmps6
    go_wp2_with fail
    go_ret
    exact ⟨rfl, Below.refl _ _⟩
  by_cases hn : g.length + tot g ≤ 1048576
  · clear hz
    have hnn : ¬ ((1048576 : Int) - g.length - tot g < 0) := by omega
    obtain ⟨ps, hps⟩ : ∃ ps, ps = innerNs g (innerV g s) := ⟨_, rfl⟩
    obtain ⟨ok, hok⟩ : ∃ ok, ok = (innerV g s).isSome := ⟨_, rfl⟩
    have hpl : ps.length ≤ 1048576 := by
      rw [hps]; have := innerNs_len g s; omega
    have HQ : Hid (eqG g g = true) := eqG_iff.2 rfl
    have ok1 : (ok != ok) = false := by simp
    have H1 : Hid (∀ A cap w, Gr w A g → g.length ≤ cap → Calls Tryz.prog 24 #[.slice A g.length cap, .string s] w (ListPost ps ok w)) := by
      rw [hps, hok]; exact fun A cap w h1 h2 => specInner_any A cap g s w h1 hn h2
    have H2 : Hid (∀ A cap w, Gr w A g → Calls Tryz.prog 25 #[.slice A g.length cap, .string s] w (ListPost ps ok w)) := by
      rw [hps, hok]; exact fun A cap w h1 => implInner_any A cap g s w h1 hn
    clear hps hok
    go_enter Tryz.func6, Tryz.ntmps6
    go_wp2_with fail
    refine (szS_small A cap g _ hg hn).mono ?_
    rintro e w1 ⟨rfl, b1⟩
    have HB1 := Lib.hid b1
    have g1 := hg.below b1
    clear b1
    go_wp2_with fail
    refine (toS_any A cap g _ g1 hn).mono ?_
    rintro e w2 ⟨rfl, o2, b2⟩
    have HB2 := Lib.hid (below_trans_self HB1.out b2)
    clear b2
    go_wp2_with fail
    refine (H1.out _ _ _ o2.gr (Nat.le_refl _)).mono ?_
    rintro e w3 ⟨v4, rfl, ow4, b3⟩
    obtain ⟨A4, c4, rfl, q3⟩ := own_strs ow4
    have HB3 := Lib.hid (below_trans_self HB2.out b3)
    have HT3 : Hid (Below w3.heap.size w3 w3) := Below.refl _ _
    have HQ3 := Lib.hid q3
    have HG := Lib.hid hg
    clear b3 ow4 o2 q3 hg g1
    go_wp2_with fail
    refine (toS_any A cap g _ (HG.out.below HB3.out) hn).mono ?_
    rintro e w4 ⟨rfl, o4, b4⟩
    have HO4 := Lib.hid o4
    have hs4 := o4.lt'
    clear o4
    have HB4 := Lib.hid (HB3.out.trans (b4.mono HB3.out.size))
    have HT4 := Lib.hid (HT3.out.trans (b4.mono HT3.out.size))
    clear b4
    go_wp2_with fail
    refine (H2.out _ _ _ HO4.out.gr).mono ?_
    rintro e w5 ⟨v5, rfl, ow5, b5⟩
    obtain ⟨A5, c5, rfl, -⟩ := own_strs ow5
    have HP5 := Lib.hid ow5
    have HO5 := Lib.hid (HO4.out.below' b5)
    have HS5 := Lib.hid b5.size
    have HB5 := Lib.hid (HB4.out.trans (b5.mono HB4.out.size))
    have HT5 := Lib.hid (HT4.out.trans (b5.mono HT4.out.size))
    clear b5 ow5
    go_wp2_with fail
    refine (eqStr_any _ _ _ _ ps _ HP5.out.strs (HQ3.out.below HT5.out) hpl).mono ?_
    rintro e w6 ⟨rfl, b6⟩
    have HB6 := Lib.hid (HB5.out.trans (b6.mono HB5.out.size))
    have HT6 := Lib.hid (HT5.out.trans (b6.mono HT5.out.size))
    have HO6 := Lib.hid (HO5.out.below' b6)
    have HP6 := Lib.hid (ownRow_below HP5.out b6)
    have HS6 := Lib.hid (Nat.le_trans HS5.out b6.size)
    clear b6
    go_wp2_with fail
    refine (toS_any A cap g _ (HG.out.below HB6.out) hn).mono ?_
    rintro e w7 ⟨rfl, o7, b7⟩
    have HB7 := Lib.hid (HB6.out.trans (b7.mono HB6.out.size))
    have HT7 := Lib.hid (HT6.out.trans (b7.mono HT6.out.size))
    have HO7 := Lib.hid (HO6.out.below' b7)
    have HP7 := Lib.hid (ownRow_below HP6.out b7)
    have HS7 := Lib.hid (Nat.le_trans HS6.out b7.size)
    clear b7
    go_wp2_with fail
    refine (eqS_any _ _ _ _ g g _ HO7.out.gr o7.gr (by omega) (by omega)).mono ?_
    rintro e w8 ⟨rfl, b8⟩
    rw [HQ.out]
    have HM := Lib.hid ((HO7.out.below' b8).mark (by omega))
    have HB8 := Lib.hid (HB7.out.trans (b8.mono HB7.out.size))
    have HT8 := Lib.hid (HT7.out.trans (b8.mono HT7.out.size))
    have HP8 := Lib.hid (ownRow_below HP7.out b8)
    have HS8 := Lib.hid (Nat.le_trans HS7.out b8.size)
    clear b8
    go_wp2_with fail
    refine HM.out.mono ?_
    rintro e w9 ⟨rfl, _, om⟩
    have HB9 := Lib.hid (HB8.out.trans (only_belowS om HB3.out.size HB8.out.size))
    have HT9 := Lib.hid (HT8.out.trans (only_belowS om (Nat.le_refl _) HT8.out.size))
    have HP9 : Hid (OwnStr w9 w4.heap.size (.slice A5 ps.length c5) ps) := Lib.hid (own_onlyS HP8.out om hs4)
    have HS9 := Lib.hid (Nat.le_trans HS8.out om.size)
    clear om o7
    go_wp2_with fail
    refine (eqStr_any _ _ _ _ ps _ HP9.out.strs (HQ3.out.below HT9.out) hpl).mono ?_
    rintro e w10 ⟨rfl, b10⟩
    have HM2 := Lib.hid (markV (ownRow_below HP9.out b10) hpl (Nat.le_trans HS9.out b10.size))
    have HB10 := Lib.hid (HB9.out.trans (b10.mono HB9.out.size))
    have HT10 := Lib.hid (HT9.out.trans (b10.mono HT9.out.size))
    clear b10
    go_wp2_with fail
    refine HM2.out.mono ?_
    rintro e w11 ⟨rfl, hmk, om⟩
    have HB11 := Lib.hid (HB10.out.trans (om.mono (Nat.le_trans HB4.out.size (Nat.le_refl _))))
    have HT11 := Lib.hid (HT10.out.trans (om.mono HT4.out.size))
    have HK11 := Lib.hid hmk
    clear om hmk
    go_wp2_with fail
    refine (heldV HK11.out hpl).mono ?_
    rintro e w12 ⟨rfl, b12⟩
    have HK12 := Lib.hid (HK11.out.below b12)
    have HB12 := Lib.hid (HB11.out.trans (b12.mono HB11.out.size))
    have HT12 := Lib.hid (HT11.out.trans (b12.mono HT11.out.size))
    clear b12
    go_wp2_with fail
    refine (toS_any A cap g _ (HG.out.below HB12.out) hn).mono ?_
    rintro e w13 ⟨rfl, o13, b13⟩
    have HK13 := Lib.hid (HK12.out.below b13)
    have HB13 := Lib.hid (HB12.out.trans (b13.mono HB12.out.size))
    have HT13 := Lib.hid (HT12.out.trans (b13.mono HT12.out.size))
    clear b13
    go_wp2_with fail
    refine (H2.out _ _ _ o13.gr).mono ?_
    rintro e w14 ⟨v14, rfl, ow14, b14⟩
    obtain ⟨A14, c14, rfl, q14⟩ := own_strs ow14
    have HQ14 := Lib.hid q14
    have HK14 := Lib.hid (HK13.out.below b14)
    have HB14 := Lib.hid (HB13.out.trans (b14.mono HB13.out.size))
    have HT14 := Lib.hid (HT13.out.trans (b14.mono HT13.out.size))
    clear b14 ow14 q14
    go_wp2_with fail
    refine (eqStr_any _ _ _ _ ps _ HQ14.out (HQ3.out.below HT14.out) hpl).mono ?_
    rintro e w15 ⟨rfl, b15⟩
    have HK15 := Lib.hid (HK14.out.below b15)
    have HB15 := Lib.hid (HB14.out.trans (b15.mono HB14.out.size))
    clear b15 o13
    go_wp2_with fail
    refine (heldV HK15.out hpl).mono ?_
    rintro e w16 ⟨rfl, b16⟩
    have HB16 := Lib.hid (HB15.out.trans (b16.mono HB15.out.size))
    clear b16
    go_wp2_with fail
    go_ret
    exact ⟨rfl, HB16.out⟩
  · have HZ := Lib.hid hz
    clear hz
    go_enter Tryz.func6, Tryz.ntmps6
    go_wp2_with fail
    refine (szS_big A cap g _ hg hn hl HZ.out).mono ?_
    rintro e w1 ⟨rfl, b1⟩
    go_wp2_with fail
    go_ret
    exact ⟨rfl, b1⟩

set_option maxRecDepth 100000 in
theorem exInnerParts_lifted (os : Os) (started : os.Started) (H : Type) (enc : TypeId × Value → H) :
    ReturnsInHanded {} Tryz.checked os 6 .any (Rows.fnExactInnerPartsSpec.pre6 enc Tryz.prog Tryz.f6 Rows.fnExactInnerPartsRow.domain false) (Rows.fnExactInnerPartsSpec.post enc Tryz.prog Tryz.f6 false true false false) := by
  refine returnsInHanded_of_change (C := Tryz.checked) own started (by kernel_rfl) Tryz.func6
    (ChangeSpec.witness6 (enc := enc) (C := Tryz.checked) false ⟨#[], #[.slice none 0 0, .string ⟨#[]⟩], []⟩ 8 (by kernel_rfl) (by kernel_rfl) (by kernel_rfl) (by kernel_rfl)) ?_
  intro W base args ds gs before hval0 hW _ _
  have hval : ∀ (j : Nat) t v, Tryz.f6.params[j]? = some t → args[j]? = some v → Value.okWide Tryz.prog W .any base t v := hval0
  have hW' := hW
  obtain ⟨p, q, hA0, hV, rfl, _, _⟩ := hW
  have hA : DataW.TrodAll enc Tryz.prog W 0 (fun _ => true) true Tryz.f6.params.toList args.toList ds p := hA0
  rw [Tryz.params6] at hA hval
  obtain ⟨v0, v1, d0, d1, p0, p1, rfl, rfl, rfl, h0, h1⟩ := trodAll_two hA
  obtain ⟨rfl, rfl⟩ := trodVars_none hV
  have h0k := h0
  have h1k := h1
  clear hA0 hval0
  simp only [List.append_nil] at hW'
  have hlt : ∀ x ∈ p0 ++ p1, x.block < W.heap.size := fun x hx => by simpa using hW'.lt x hx
  have hlt0 : ∀ x ∈ p0, x.block < W.heap.size := fun x hx => hlt x (List.mem_append_left _ hx)
  have hlt1 : ∀ x ∈ p1, x.block < W.heap.size := fun x hx => hlt x (List.mem_append_right _ hx)
  obtain ⟨A, cap, g, rfl, _, hl, hg, hz⟩ := open_blocks (hval 0 22 v0 rfl rfl) h0 hlt0
  obtain ⟨s, rfl⟩ := okWide_string Tryz.underlying9 (hval 1 9 v1 rfl rfl)
  refine (exInnerParts_walk A cap g s W hg hl hz).mono fun e W' ⟨he, hB⟩ => ?_
  subst he
  refine ⟨_, rfl, _, _, _, [] ++ [], p0 ++ p1, [], hW', ?_, ?_, rfl, hB.frame _, fun h => by cases h⟩
  · exact trodAll_mk1 (shut_bool Tryz.underlying4 true)
  · exact trodAll_mk2 (Below.trod laidOut (by kernel_rfl) (of_decide_eq_true (by kernel_rfl)) h0k hB hlt0) (Below.trod laidOut (by kernel_rfl) (of_decide_eq_true (by kernel_rfl)) h1k hB hlt1)

theorem exInnerParts_holds : Rows.FnExactInnerPartsSaid :=
  OpenClaim.holds_of_wide 6 Tryz.f6 rfl rfl rfl rfl rfl rfl rfl ⟨rfl, rfl, rfl, rfl, rfl⟩ rfl rfl rfl rfl rfl (by kernel_rfl) Tryz.func6 (by kernel_rfl)
    (of_decide_eq_true (by kernel_rfl)) (by unfold Func.isWrapper; first | (rw [if_pos (by decide +kernel)]; kernel_rfl) | (rw [if_neg (by decide +kernel)]; exact ⟨rfl, rfl⟩))
    (fun os started H enc _ => exInnerParts_lifted os started H enc)
#print axioms exInnerParts_holds
end Go.Proofs.YtdpjdhllaokbfaaGreat
