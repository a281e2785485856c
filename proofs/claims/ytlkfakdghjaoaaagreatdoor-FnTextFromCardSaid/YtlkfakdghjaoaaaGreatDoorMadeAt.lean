import Derived.Test.YtlkfakdghjaoaaaGreatDoorJ14
namespace Go.Proofs.YtlkfakdghjaoaaaGreatDoor
open Go.RowKit Go.Sort Go.Shelf Go.Maps Go.WideMaps
attribute [local go_sem] Oper.semAt_some
theorem implFramesAt_any (A : Option Addr) (cap : Nat) (g : List Bl) (s : ByteArray) (w : World) (hg : Gr w A g) (hn : g.length + tot g ≤ 1048576) (hs : s.size ≤ 1048576) :
  Calls Tryz.prog 36 #[.slice A g.length cap, .string s] w fun e w' => e = .returned (.tuple #[.string (framesV g s), .bool (partB g s)]) ∧ Below w.heap.size w w' := by
 have HC := Lib.hid (partNamed_any A cap g s w hg hn hs)
 clear hg
 go_enter Tryz.func36, Tryz.ntmps36
 go_wp2_with fail
 refine HC.out.mono ?_
 rintro e w1 ⟨rfl, b1⟩
 have HB1 := Lib.hid b1
 clear b1
 go_wp2_with fail
 go_ret2
 exact ⟨rfl, HB1.out.alloc HB1.out.size _⟩
theorem implTextFrom_any (A : Option Addr) (cap : Nat) (g : List Bl) (s : ByteArray) (w : World) (hg : Gr w A g) (hn : g.length + tot g ≤ 1048576) (hs : s.size ≤ 1048576) :
  Calls Tryz.prog 34 #[.slice A g.length cap, .string s] w fun e w' => e = .returned (.tuple #[.string (fromV g s), .bool (partB g s)]) ∧ Below w.heap.size w w' := by
 have HC := Lib.hid (partNamed_any A cap g s w hg hn hs)
 clear hg
 go_enter Tryz.func34, Tryz.ntmps34
 go_wp2_with fail
 refine HC.out.mono ?_
 rintro e w1 ⟨rfl, b1⟩
 have HB1 := Lib.hid b1
 clear b1
 go_wp2_with fail
 go_ret2
 exact ⟨rfl, HB1.out.alloc HB1.out.size _⟩
set_option maxRecDepth 100000 in
theorem specFramesAt_any (A : Option Addr) (cap : Nat) (g : List Bl) (s : ByteArray) (w : World) (hg : Gr w A g) (hn : g.length + tot g ≤ 1048576) (hcap : g.length ≤ cap) :
  Calls Tryz.prog 37 #[.slice A g.length cap, .string s] w fun e w' => e = .returned (.tuple #[.string (framesV g s), .bool (partB g s)]) ∧ Below w.heap.size w w' := by
 cases ht : tameB g with
 | false =>
  have HC := Lib.hid (l7Text_no A cap g w hg hn hcap ht)
  have hp : partOf g s = none := by unfold partOf madeB; rw [ht]; rfl
  have HR : Hid (framesV g s = ⟨#[]⟩ ∧ partB g s = false) := Lib.hid (by unfold framesV partB; rw [hp]; exact ⟨rfl, rfl⟩)
  clear hg ht hp
  go_enter Tryz.func37, Tryz.ntmps37
  go_wp2_with fail
  refine HC.out.mono ?_
  rintro e w1 ⟨p, rfl, b1⟩
  have HB1 := Lib.hid b1
  clear b1
  go_wp2_with fail
  go_ret2
  obtain ⟨r1, r2⟩ := HR.out
  exact ⟨by rw [r1, r2]; rfl, HB1.out⟩
 | true =>
  have HC := Lib.hid (l7Text_yes A cap g w hg hn hcap ht)
  have HL := Lib.hid (fun W (h : Gr W A g) => l3Live_any A cap g s W h hn hcap)
  have HIX := Lib.hid (fun W (h : Gr W A g) => index_any A cap g s W h (by omega))
  have HG := Lib.hid hg
  cases htb : textB (madeT g) with
  | false =>
   rw [htb] at HC
   have hp : partOf g s = none := by unfold partOf madeB; rw [ht, htb]; rfl
   have HR : Hid (framesV g s = ⟨#[]⟩ ∧ partB g s = false) := Lib.hid (by unfold framesV partB; rw [hp]; exact ⟨rfl, rfl⟩)
   clear hg ht hp htb
   go_enter Tryz.func37, Tryz.ntmps37
   go_wp2_with fail
   refine HC.out.mono ?_
   rintro e w1 ⟨MB, AB, PB, rfl, b1, hM⟩
   have HB1 := Lib.hid b1
   clear b1 hM
   go_wp2_with fail
   go_ret2
   obtain ⟨r1, r2⟩ := HR.out
   exact ⟨by rw [r1, r2]; rfl, HB1.out⟩
  | true =>
   rw [htb] at HC
   have hb : madeB g = true := by unfold madeB; rw [ht, htb]; rfl
   cases hl : liveOf g s with
   | none =>
    rw [hl] at HL
    have hp : partOf g s = none := by unfold partOf; rw [if_pos hb, hl]; rfl
    have HR : Hid (framesV g s = ⟨#[]⟩ ∧ partB g s = false) := Lib.hid (by unfold framesV partB; rw [hp]; exact ⟨rfl, rfl⟩)
    rw [show idxInt none = -1 from rfl] at HL
    clear hg ht hp htb hb hl
    go_enter Tryz.func37, Tryz.ntmps37
    go_wp2_with fail
    refine HC.out.mono ?_
    rintro e w1 ⟨MB, AB, PB, rfl, b1, hM⟩
    have HB1 := Lib.hid b1
    have HL1 := Lib.hid (HL.out w1 (HG.out.below b1))
    clear b1 hM
    go_wp2_with fail
    refine HL1.out.mono ?_
    rintro e w2 ⟨rfl, b2⟩
    have HB2 := Lib.hid (HB1.out.trans (b2.mono HB1.out.size))
    clear b2
    go_wp2_with fail
    go_ret2
    obtain ⟨r1, r2⟩ := HR.out
    exact ⟨by rw [r1, r2]; rfl, HB2.out⟩
   | some n =>
    rw [hl] at HL
    obtain ⟨hv, hp1, _⟩ := liveOf_is hl
    have hnl : n < g.length := (live_nm hl).2.1
    rw [hp1] at HIX
    have hp : partOf g s = some (madeP g n, madeA g n) := by unfold partOf; rw [if_pos hb, hl]; rfl
    have HR : Hid (framesV g s = tb (madeA g n) ∧ partB g s = true) := Lib.hid (by unfold framesV partB; rw [hp]; exact ⟨rfl, rfl⟩)
    rw [show idxInt (some n) = (n : Int) from rfl] at HL HIX
    have hni : (n : Int) < (g.length : Int) := by omega
    have hn0 : (0 : Int) ≤ (n : Int) := by omega
    clear hg ht hp htb hb hl hp1 hv
    go_enter Tryz.func37, Tryz.ntmps37
    go_wp2_with fail
    refine HC.out.mono ?_
    rintro e w1 ⟨MB, AB, PB, rfl, b1, hM⟩
    have HB1 := Lib.hid b1
    have HM1 := Lib.hid hM
    have HL1 := Lib.hid (HL.out w1 (HG.out.below b1))
    clear b1 hM
    go_wp2_with fail
    refine HL1.out.mono ?_
    rintro e w2 ⟨rfl, b2⟩
    have HB2 := Lib.hid (HB1.out.trans (b2.mono HB1.out.size))
    have HM2 := Lib.hid (HM1.out.below b2)
    have c1 : ∀ d os, Calls Tryz.prog 76 #[.slice A g.length cap, .string s] (grow (redrawn w2 d) os) fun e w'' => e = .returned (.int .i64 (n : Int)) ∧ ∃ p : Regrown, w'' = grow (redrawn w2 p.d) p.os := fun d os => Calls.regrown_of (HIX.out _ ((HG.out.below HB2.out).below (below_regrown w2 d os)))
    have k4 := cell_regrown (show w2.cell? ⟨MB, 4, none⟩ = some (.slice (some ⟨AB, 0, none⟩) g.length g.length) from HM2.out.blk.cell 4)
    have k5 := cell_regrown (show w2.cell? ⟨AB, n, none⟩ = some (.string (tb (madeA g n))) by rw [HM2.out.ar.cell n, rowC_get _ hnl])
    clear b2
    go_wp2_with fail
    refine wp_region_quiet_below (by kernel_rfl) (by kernel_rfl) ?_
    repeat (any_goals (first | go_big_quiet_step (first | with_reducible exact c1 _ _) | quiet_step (first | with_reducible exact c1 _ _)))
    all_goals (refine wpQuiet_nil ?_; intro _ hw'; obtain ⟨⟨dq, osq⟩, hw''⟩ := hw'; subst hw'')
    have hb2 := below_regrown w2 dq osq
    generalize grow (redrawn w2 dq) osq = w3 at hb2 ⊢
    have HB3 := Lib.hid (HB2.out.trans (hb2.mono HB2.out.size))
    clear c1 k4 k5 hb2
    go_wp2_with fail
    go_ret2
    obtain ⟨r1, r2⟩ := HR.out
    exact ⟨by rw [r1, r2]; rfl, HB3.out⟩
set_option maxRecDepth 100000 in
theorem specTextFrom_any (A : Option Addr) (cap : Nat) (g : List Bl) (s : ByteArray) (w : World) (hg : Gr w A g) (hn : g.length + tot g ≤ 1048576) (hcap : g.length ≤ cap) :
  Calls Tryz.prog 35 #[.slice A g.length cap, .string s] w fun e w' => e = .returned (.tuple #[.string (fromV g s), .bool (partB g s)]) ∧ Below w.heap.size w w' := by
 cases ht : tameB g with
 | false =>
  have HC := Lib.hid (l7Text_no A cap g w hg hn hcap ht)
  have hp : partOf g s = none := by unfold partOf madeB; rw [ht]; rfl
  have HR : Hid (fromV g s = ⟨#[]⟩ ∧ partB g s = false) := Lib.hid (by unfold fromV partB; rw [hp]; exact ⟨rfl, rfl⟩)
  clear hg ht hp
  go_enter Tryz.func35, Tryz.ntmps35
  go_wp2_with fail
  refine HC.out.mono ?_
  rintro e w1 ⟨p, rfl, b1⟩
  have HB1 := Lib.hid b1
  clear b1
  go_wp2_with fail
  go_ret2
  obtain ⟨r1, r2⟩ := HR.out
  exact ⟨by rw [r1, r2]; rfl, HB1.out⟩
 | true =>
  have HC := Lib.hid (l7Text_yes A cap g w hg hn hcap ht)
  have HL := Lib.hid (fun W (h : Gr W A g) => l3Live_any A cap g s W h hn hcap)
  have HIX := Lib.hid (fun W (h : Gr W A g) => index_any A cap g s W h (by omega))
  have HG := Lib.hid hg
  cases htb : textB (madeT g) with
  | false =>
   rw [htb] at HC
   have hp : partOf g s = none := by unfold partOf madeB; rw [ht, htb]; rfl
   have HR : Hid (fromV g s = ⟨#[]⟩ ∧ partB g s = false) := Lib.hid (by unfold fromV partB; rw [hp]; exact ⟨rfl, rfl⟩)
   clear hg ht hp htb
   go_enter Tryz.func35, Tryz.ntmps35
   go_wp2_with fail
   refine HC.out.mono ?_
   rintro e w1 ⟨MB, AB, PB, rfl, b1, hM⟩
   have HB1 := Lib.hid b1
   clear b1 hM
   go_wp2_with fail
   go_ret2
   obtain ⟨r1, r2⟩ := HR.out
   exact ⟨by rw [r1, r2]; rfl, HB1.out⟩
  | true =>
   rw [htb] at HC
   have hb : madeB g = true := by unfold madeB; rw [ht, htb]; rfl
   cases hl : liveOf g s with
   | none =>
    rw [hl] at HL
    have hp : partOf g s = none := by unfold partOf; rw [if_pos hb, hl]; rfl
    have HR : Hid (fromV g s = ⟨#[]⟩ ∧ partB g s = false) := Lib.hid (by unfold fromV partB; rw [hp]; exact ⟨rfl, rfl⟩)
    rw [show idxInt none = -1 from rfl] at HL
    clear hg ht hp htb hb hl
    go_enter Tryz.func35, Tryz.ntmps35
    go_wp2_with fail
    refine HC.out.mono ?_
    rintro e w1 ⟨MB, AB, PB, rfl, b1, hM⟩
    have HB1 := Lib.hid b1
    have HL1 := Lib.hid (HL.out w1 (HG.out.below b1))
    clear b1 hM
    go_wp2_with fail
    refine HL1.out.mono ?_
    rintro e w2 ⟨rfl, b2⟩
    have HB2 := Lib.hid (HB1.out.trans (b2.mono HB1.out.size))
    clear b2
    go_wp2_with fail
    go_ret2
    obtain ⟨r1, r2⟩ := HR.out
    exact ⟨by rw [r1, r2]; rfl, HB2.out⟩
   | some n =>
    rw [hl] at HL
    obtain ⟨hv, hp1, _⟩ := liveOf_is hl
    have hnl : n < g.length := (live_nm hl).2.1
    rw [hp1] at HIX
    have hp : partOf g s = some (madeP g n, madeA g n) := by unfold partOf; rw [if_pos hb, hl]; rfl
    have HR : Hid (fromV g s = tb (madeP g n) ∧ partB g s = true) := Lib.hid (by unfold fromV partB; rw [hp]; exact ⟨rfl, rfl⟩)
    rw [show idxInt (some n) = (n : Int) from rfl] at HL HIX
    have hni : (n : Int) < (g.length : Int) := by omega
    have hn0 : (0 : Int) ≤ (n : Int) := by omega
    clear hg ht hp htb hb hl hp1 hv
    go_enter Tryz.func35, Tryz.ntmps35
    go_wp2_with fail
    refine HC.out.mono ?_
    rintro e w1 ⟨MB, AB, PB, rfl, b1, hM⟩
    have HB1 := Lib.hid b1
    have HM1 := Lib.hid hM
    have HL1 := Lib.hid (HL.out w1 (HG.out.below b1))
    clear b1 hM
    go_wp2_with fail
    refine HL1.out.mono ?_
    rintro e w2 ⟨rfl, b2⟩
    have HB2 := Lib.hid (HB1.out.trans (b2.mono HB1.out.size))
    have HM2 := Lib.hid (HM1.out.below b2)
    have c1 : ∀ d os, Calls Tryz.prog 76 #[.slice A g.length cap, .string s] (grow (redrawn w2 d) os) fun e w'' => e = .returned (.int .i64 (n : Int)) ∧ ∃ p : Regrown, w'' = grow (redrawn w2 p.d) p.os := fun d os => Calls.regrown_of (HIX.out _ ((HG.out.below HB2.out).below (below_regrown w2 d os)))
    have k4 := cell_regrown (show w2.cell? ⟨MB, 5, none⟩ = some (.slice (some ⟨PB, 0, none⟩) g.length g.length) from HM2.out.blk.cell 5)
    have k5 := cell_regrown (show w2.cell? ⟨PB, n, none⟩ = some (.string (tb (madeP g n))) by rw [HM2.out.pt.cell n, rowC_get _ hnl])
    clear b2
    go_wp2_with fail
    refine wp_region_quiet_below (by kernel_rfl) (by kernel_rfl) ?_
    repeat (any_goals (first | go_big_quiet_step (first | with_reducible exact c1 _ _) | quiet_step (first | with_reducible exact c1 _ _)))
    all_goals (refine wpQuiet_nil ?_; intro _ hw'; obtain ⟨⟨dq, osq⟩, hw''⟩ := hw'; subst hw'')
    have hb2 := below_regrown w2 dq osq
    generalize grow (redrawn w2 dq) osq = w3 at hb2 ⊢
    have HB3 := Lib.hid (HB2.out.trans (hb2.mono HB2.out.size))
    clear c1 k4 k5 hb2
    go_wp2_with fail
    go_ret2
    obtain ⟨r1, r2⟩ := HR.out
    exact ⟨by rw [r1, r2]; rfl, HB3.out⟩
end Go.Proofs.YtlkfakdghjaoaaaGreatDoor
