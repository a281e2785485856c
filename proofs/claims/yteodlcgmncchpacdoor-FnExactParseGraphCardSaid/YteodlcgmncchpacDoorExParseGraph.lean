/-
  Proved: the law FnExactParseGraph returns true for every string and leaves it as it was, with no condition on the input: row and tied card.
-/
import Derived.Test.YteodlcgmncchpacDoorSplit
import Derived.Test.YteodlcgmncchpacDoorHeld
import Derived.Test.YteodlcgmncchpacDoorValids
import Derived.Test.YteodlcgmncchpacDoorCards
import Derived.Test.YteodlcgmncchpacDoorTie
import Derived.SevenTiedAt
import Derived.Lay
import Derived.LaidMore
import Derived.Stop.Joined
namespace Go.Proofs.YteodlcgmncchpacDoor
open Go.ChangeShapes Go.WideShapes Go.ChangeAt Go.RowKit Go.Deep

theorem only_below {B n : Nat} {w w' : World} (h : Only B w w') (h1 : n ≤ B) (h2 : n ≤ w.heap.size) : Below n w w' :=
  ⟨h.os, h.tape, h.output, h.size, fun k hk => h.block k (by omega) (by omega)⟩
theorem OwnGr.below' {w w' : World} {B : Nat} {g : List Bl} (h : OwnGr w B g) (hb : Below w.heap.size w w') : OwnGr w' B g := by
  obtain ⟨cs, t, hk, hc⟩ := h
  exact ⟨cs, t, hk.below hb hk.lt, hc⟩
theorem OwnGr.mark {w : World} {B cp : Nat} {g : List Bl} (h : OwnGr w B g) (hl : g.length ≤ 1048576) :
    Calls Tryd.prog 16 #[.slice (some ⟨B, 0, none⟩) g.length cp, .int .i64 1] w (MarkPost B 1 (g.length * 2) w) := by
  obtain ⟨cs, t, hk, hc⟩ := h
  refine mark_any' B g.length t cs w hk ?_ hl
  by_cases h0 : g.length = 0
  · omega
  · obtain ⟨_, h2⟩ := hc (g.length - 1) (by omega)
    rcases Nat.lt_or_ge ((g.length - 1) * 2 + 1) cs.size with h | h
    · omega
    · rw [Array.getElem?_eq_none h] at h2; cases h2

theorem mark_nil (w : World) : Calls Tryd.prog 16 #[.slice none 0 0, .int .i64 1] w fun e w' => e = .returned (.int .i64 1) ∧ w = w' := by
  go_enter Tryd.func16, Tryd.ntmps16
  go_wp2
  go_loop [1, 5] (fun x i => x = .int .i64 ((1 : Nat) : Int) ∧ i = .int .i64 ((0 : Nat) : Int)) (fun _ _ => 0)
  case atStart => exact ⟨rfl, rfl⟩
  case round =>
    obtain ⟨rfl, rfl⟩ := hrel
    go_wp2
    go_ret
    exact ⟨rfl, rfl⟩

theorem held_nil (w : World) : Calls Tryd.prog 17 #[.slice none 0 0, .int .i64 1] w fun e w' => e = .returned (.int .i64 1) ∧ w = w' := by
  go_enter Tryd.func17, Tryd.ntmps17
  go_wp2
  go_loop [1, 5] (fun x i => x = .int .i64 ((1 : Nat) : Int) ∧ i = .int .i64 ((0 : Nat) : Int)) (fun _ _ => 0)
  case atStart => exact ⟨rfl, rfl⟩
  case round =>
    obtain ⟨rfl, rfl⟩ := hrel
    go_wp2
    go_ret
    exact ⟨rfl, rfl⟩

/-- A slice of the call's own that holds blocks: none, or a block known whole. -/
theorem own_cases {w : World} {base : Nat} {v : Value} {g : List Bl} (h : OwnBl w base v g) : (v = .slice none 0 0 ∧ g = []) ∨ ∃ B cap, v = .slice (some ⟨B, 0, none⟩) g.length cap ∧ base ≤ B ∧ OwnGr w B g := by
  rcases h.2 with ⟨hv, hn⟩ | ⟨B, cap, cur, hv, hb, hg, hnc, _, _, ht⟩
  · exact .inl ⟨hv, List.eq_nil_of_length_eq_zero hn⟩
  · refine .inr ⟨B, cap, hv, hb, cur, 52, hg, fun k hk => ?_⟩
    have c := cells2_at hk
    have key : ∀ j, j < g.length * 2 → cur[j]? = (cells2 g)[j]? := fun j hj => by
      rw [← ht, List.getElem?_take_of_lt hj, Array.getElem?_toList]
    rw [key _ (by omega), key _ (by omega)]
    exact c

def ParsePostV (pg : List Bl) (ok : Bool) (w : World) (e : Ending) (w' : World) : Prop :=
  ∃ v, e = .returned (.tuple #[v, .bool ok]) ∧ OwnBl w' w.heap.size v pg ∧ Below w.heap.size w w'

theorem parseVal_len (s : ByteArray) (hs : s.size ≤ 1048576) : (parseVal s).length + tot (parseVal s) ≤ 1048576 := by
  unfold parseVal
  split
  · rename_i h
    unfold parseOk at h
    have hlong := (Bool.and_eq_true_iff.1 h).1
    have h1 : (parsed s).length + tot (parsed s) = lensOf (pieces 44 s) := tot_parsed hlong
    have h2 := pieces_lens 44 s
    have h4 : (pieces 44 s).length ≠ 0 := by
      intro e
      have := cutL_lens 44 s.data.toList
      have e2 : (cutL 44 s.data.toList).length = 0 := by simpa [pieces] using e
      rw [List.eq_nil_of_length_eq_zero e2] at this
      simp at this
    omega
  · simp [tot]

set_option maxRecDepth 100000 in
set_option maxHeartbeats 3200000 in
theorem exParse_walk (s : ByteArray) (w : World) :
    Calls Tryd.prog 4 #[.string s] w fun e w' => e = .returned (.bool true) ∧ Below w.heap.size w w' := by
  by_cases hsl : (1048576 : Int) < s.size
  · go_enter Tryd.func4, Tryd.ntmps4
    go_wp2_with fail
    go_ret
    exact ⟨rfl, Below.refl _ _⟩
  have hs : s.size ≤ 1048576 := by omega
  have hpl0 := parseVal_len s hs
  obtain ⟨pg, hpg⟩ : ∃ pg, pg = parseVal s := ⟨_, rfl⟩
  obtain ⟨ok, hok⟩ : ∃ ok, ok = parseOk s := ⟨_, rfl⟩
  have H1 : Hid (∀ w, Calls Tryd.prog 14 #[.string s] w (ParsePostV pg ok w)) := by
    rw [hpg, hok]; exact fun w => specParse_any s w hs
  have H2 : Hid (∀ w, Calls Tryd.prog 7 #[.string s] w (ParsePostV pg ok w)) := by
    rw [hpg, hok]; exact fun w => implParse_any s w hs
  have hpl : pg.length ≤ 1048576 := by rw [hpg]; omega
  have HQ2 : Hid (eqG pg pg = true) := eqG_iff.2 rfl
  have ok1 : (ok != ok) = false := by simp
  clear hpg hok hpl0 hs
  go_enter Tryd.func4, Tryd.ntmps4
  go_wp2_with fail
  refine (H1.out w).mono ?_
  rintro e w1 ⟨v1, rfl, ow1, b1⟩
  obtain ⟨A4, c4, rfl, hc4, q1⟩ := own_gr ow1
  have HB1 := Lib.hid b1
  have HQ1 := Lib.hid q1
  clear b1 ow1 q1
  go_wp2_with fail
  refine (H2.out w1).mono ?_
  rintro e w2 ⟨v2, rfl, ow2, b2⟩
  have HB2 := Lib.hid (HB1.out.trans (b2.mono HB1.out.size))
  have HT2 := Lib.hid b2
  rcases own_cases ow2 with ⟨rfl, hnil⟩ | ⟨B7, cap7, rfl, hB7, o7⟩
  · have HNIL := Lib.hid hnil
    have HE : Hid (∀ A c w, Calls Tryd.prog 15 #[.slice A pg.length c, .slice A4 pg.length c4] w fun e w' => e = .returned (.bool true) ∧ Below w.heap.size w w') := by
      rw [hnil]
      exact fun A c w => eqS_any A A4 c c4 [] [] w (Gr.nil _ _) (Gr.nil _ _) (by decide) (by decide)
    have HE0 : Hid (∀ w, Calls Tryd.prog 15 #[.slice none 0 0, .slice A4 pg.length c4] w fun e w' => e = .returned (.bool true) ∧ Below w.heap.size w w') := by
      rw [hnil]
      exact fun w => eqS_any none A4 0 c4 [] [] w (Gr.nil _ _) (Gr.nil _ _) (by decide) (by decide)
    clear hnil ow2 b2
    go_wp2_with fail
    refine (HE0.out w2).mono ?_
    rintro e w3 ⟨rfl, b3⟩
    have HB3 := Lib.hid (HB2.out.trans (b3.mono HB2.out.size))
    clear b3
    go_wp2_with fail
    refine (mark_nil w3).mono ?_
    rintro e _ ⟨rfl, rfl⟩
    go_wp2_with fail
    refine (held_nil w3).mono ?_
    rintro e _ ⟨rfl, rfl⟩
    go_wp2_with fail
    refine (H2.out w3).mono ?_
    rintro e w4 ⟨v4, rfl, ow4, b4⟩
    obtain ⟨A12, c12, rfl, _, _⟩ := own_gr ow4
    have HB4 := Lib.hid (HB3.out.trans (b4.mono HB3.out.size))
    clear b4 ow4
    go_wp2_with fail
    refine (HE.out A12 c12 w4).mono ?_
    rintro e w5 ⟨rfl, b5⟩
    have HB5 := Lib.hid (HB4.out.trans (b5.mono HB4.out.size))
    clear b5
    go_wp2_with fail
    refine (held_nil w5).mono ?_
    rintro e _ ⟨rfl, rfl⟩
    go_wp2_with fail
    go_ret
    exact ⟨rfl, HB5.out⟩
  · have HP2 := Lib.hid o7
    have h1s := HB1.out.size
    clear ow2 b2 o7
    go_wp2_with fail
    refine (eqS_any _ _ _ _ pg pg _ HP2.out.gr (HQ1.out.below HT2.out) hpl hpl).mono ?_
    rintro e w3 ⟨rfl, b3⟩
    rw [HQ2.out]
    have HB3 := Lib.hid (HB2.out.trans (b3.mono HB2.out.size))
    have HT3 := Lib.hid (HT2.out.trans (b3.mono HT2.out.size))
    have HM2 := Lib.hid ((HP2.out.below' b3).mark (cp := cap7) hpl)
    clear b3
    go_wp2_with fail
    refine HM2.out.mono ?_
    rintro e w4 ⟨rfl, ⟨cs7, t7, hblk, hmk⟩, om⟩
    have HB4 := Lib.hid (HB3.out.trans (only_below om (by omega) HB3.out.size))
    have HT4 := Lib.hid (HT3.out.trans (only_below om hB7 HT3.out.size))
    have HBK := Lib.hid hblk
    have HMK := Lib.hid hmk
    clear om hblk hmk
    go_wp2_with fail
    refine (held_any B7 pg.length t7 cs7 w4 HBK.out HMK.out hpl).mono ?_
    rintro e w5 ⟨rfl, b5⟩
    have HBK5 := Lib.hid (HBK.out.below b5 HBK.out.lt)
    have HB5 := Lib.hid (HB4.out.trans (b5.mono HB4.out.size))
    have HT5 := Lib.hid (HT4.out.trans (b5.mono HT4.out.size))
    clear b5
    go_wp2_with fail
    refine (H2.out w5).mono ?_
    rintro e w6 ⟨v6, rfl, ow6, b6⟩
    obtain ⟨A12, c12, rfl, _, q6⟩ := own_gr ow6
    have HQ6 := Lib.hid q6
    have HBK6 := Lib.hid (HBK5.out.below b6 HBK5.out.lt)
    have HB6 := Lib.hid (HB5.out.trans (b6.mono HB5.out.size))
    have HT6 := Lib.hid (HT5.out.trans (b6.mono HT5.out.size))
    clear b6 ow6 q6
    go_wp2_with fail
    refine (eqS_any _ _ _ _ pg pg _ HQ6.out (HQ1.out.below HT6.out) hpl hpl).mono ?_
    rintro e w7 ⟨rfl, b7⟩
    rw [HQ2.out]
    have HBK7 := Lib.hid (HBK6.out.below b7 HBK6.out.lt)
    have HB7 := Lib.hid (HB6.out.trans (b7.mono HB6.out.size))
    clear b7
    go_wp2_with fail
    refine (held_any B7 pg.length t7 cs7 w7 HBK7.out HMK.out hpl).mono ?_
    rintro e w8 ⟨rfl, b8⟩
    have HB8 := Lib.hid (HB7.out.trans (b8.mono HB7.out.size))
    clear b8
    go_wp2_with fail
    go_ret
    exact ⟨rfl, HB8.out⟩
abbrev tablesLaid : List (String × DataW Unit) := [("unicode/utf8.acceptRanges", Rows.laid_unicode_utf8_acceptRanges), ("unicode/utf8.first", Rows.laid_unicode_utf8_first)]

set_option maxRecDepth 100000 in
theorem exParse_lifted (os : Os) (started : os.Started) (H : Type) (enc : TypeId × Value → H) :
    ReturnsInHanded {} Tryd.checked os 4 .any (fun w args => (Rows.fnExactParseGraphSpec.pre enc Tryd.prog Tryd.f4 [] false w args ∧ laidMetH Tryd.prog tablesLaid w) ∧ sizedMet enc Tryd.prog Tryd.f4 (OpenSpec.ofChange Rows.fnExactParseGraphSpec) false w args)
      (Rows.fnExactParseGraphSpec.post enc Tryd.prog Tryd.f4 false true false false) := by
  refine returnsInHanded_of_change_and (C := Tryd.checked) (X := fun w _ => laidMetH Tryd.prog tablesLaid w) (fun _ _ _ hh h => h.of_heap hh) own started (by kernel_rfl) Tryd.func4
    (ChangeSpec.witness_shaped (enc := enc) (C := Tryd.checked) (os := os) (X := fun w _ => laidMetH Tryd.prog tablesLaid w) false (World.laidAll Tryd.prog os tablesLaid) #[.string ⟨#[]⟩] 8 (World.laidAll_os _ _ _)
      (World.shaped_of_ZipB (by kernel_rfl) (by kernel_rfl)) (by kernel_rfl) (by kernel_rfl) (by kernel_rfl)
      (by rw [MakeChecks.laidMetH_plain _ _ _ (by kernel_rfl)]; exact laidMet_laidAll _ (by kernel_rfl) (by kernel_rfl))) ?_
  intro W base args ds gs before hval0 hW _ _ _ _
  have hval : ∀ (j : Nat) t v, Tryd.f4.params[j]? = some t → args[j]? = some v → Value.okWide Tryd.prog W .any base t v := hval0
  have hW' := hW
  obtain ⟨p, q, hA0, hV, rfl, _, _⟩ := hW
  have hA : DataW.TrodAll enc Tryd.prog W 0 (fun _ => true) true Tryd.f4.params.toList args.toList ds p := hA0
  rw [Tryd.params4] at hA hval
  obtain ⟨v0, d0, rfl, rfl, h0⟩ := trodAll_one hA
  obtain ⟨rfl, rfl⟩ := trodVars_none hV
  have h0k := h0
  clear hA0 hval0
  simp only [List.append_nil] at hW'
  have hlt : ∀ x ∈ p, x.block < W.heap.size := fun x hx => by simpa using hW'.lt x hx
  obtain ⟨s, rfl⟩ := okWide_string Tryd.underlying9 (hval 0 9 v0 rfl rfl)
  refine (exParse_walk s W).mono fun e W' ⟨he, hB⟩ => ?_
  subst he
  refine ⟨_, rfl, _, _, _, [] ++ [], p, [], hW', ?_, ?_, rfl, hB.frame _, fun h => by cases h⟩
  · exact trodAll_mk1 (shut_bool Tryd.underlying4 true)
  · exact trodAll_mk1 (Below.trod laidOut (by kernel_rfl) (of_decide_eq_true (by kernel_rfl)) h0k hB hlt)

theorem exParse_row : Rows.FnExactParseGraphSaid :=
  OpenClaim.holds_of_wide 4 Tryd.f4 rfl rfl rfl rfl rfl rfl rfl ⟨rfl, rfl, rfl, rfl, rfl⟩ rfl rfl rfl rfl rfl (by kernel_rfl) Tryd.func4 (by kernel_rfl)
    (of_decide_eq_true (by kernel_rfl)) (by unfold Func.isWrapper; first | (rw [if_pos (by decide +kernel)]; kernel_rfl) | (rw [if_neg (by decide +kernel)]; exact ⟨rfl, rfl⟩))
    (fun os started H enc _ => exParse_lifted os started H enc)

theorem exParse_holds : Rows.FnExactParseGraphCardSaid :=
  Claim7.holds_tied_plain_at .later [] [.data, .pinned] true Rows.fnExactParseGraphCard.stood.harness true
    exParse_row (fun _ h => by cases h) (by kernel_rfl) (fun _ h => by cases h) fnExactParseGraph_row_tie rfl ⟨rfl, rfl⟩ (by kernel_rfl) rfl
    (fun f fn hf hfn => by
      obtain rfl : f = 4 := Option.some.inj ((show Tryd.prog.funcNamed "loop.example/structuredjumps/laws.FnExactParseGraph" = some 4 by kernel_rfl).symm.trans hf) |>.symm
      obtain rfl : fn = Tryd.f4 := (Option.some.inj (Tryd.func4.symm.trans hfn)).symm
      exact ⟨by kernel_rfl, fun j t ht => by
        rw [Tryd.params4] at ht
        have hm : t ∈ [9] := by simpa using Array.mem_of_getElem? ht
        have hall : ([9].all fun u => !Tryd.prog.wantsStandIn u) = true := by kernel_rfl
        exact (show Tryd.prog.wantsStandIn t = false by simpa using List.all_eq_true.1 hall t hm)⟩)
    (by kernel_rfl)
end Go.Proofs.YteodlcgmncchpacDoor
