/-
  Contracts of the program's HeadersOf and MeetsOf.
-/
import Derived.Test.YtdolbmonmkjajaaGreatOrders
namespace Go.Proofs.YtdolbmonmkjajaaGreat
open Go.RowKit Go.Sort Go.Shelf Go.Maps Go.WideMaps

attribute [local go_sem] Oper.semAt_some

/-- No order, no goals. -/
theorem goalsOf_no (WB tb : Nat) (m : Nat) (mv kv : Value) (w : World) (hW : Blk w WB 71 #[.pointer (some ⟨tb, 0, none⟩), .slice none 0 0, mv]) (hT : TreeIn w tb (.slice none 0 0) (fun _ => 0) (fun _ => .pointer none)) :
    Calls Tryz.prog 71 #[.pointer (some ⟨WB, 0, none⟩), .int .i64 m, kv] w fun e w' => e = .returned (.slice none 0 0) ∧ w = w' := by
  have cW := hW.cell 0
  have cT := hT.nodes
  clear hW hT
  go_enter Tryz.func71, Tryz.ntmps71
  go_wp2_with fail
  go_loop [7, 18] (fun s i => s = .slice none 0 0 ∧ i = .int .i64 0) (fun _ _ => 0)
  case atStart => exact ⟨rfl, rfl⟩
  case round =>
    obtain ⟨rfl, rfl⟩ := hrel
    go_wp2_with fail
    go_ret
    exact ⟨rfl, rfl⟩

theorem headers_no (WB tb : Nat) (mv : Value) (w : World) (hW : Blk w WB 71 #[.pointer (some ⟨tb, 0, none⟩), .slice none 0 0, mv]) (hT : TreeIn w tb (.slice none 0 0) (fun _ => 0) (fun _ => .pointer none)) :
    Calls Tryz.prog 59 #[.pointer (some ⟨WB, 0, none⟩)] w fun e w' => e = .returned (.slice none 0 0) ∧ Below w.heap.size w w' := by
  have bk := (Below.refl w.heap.size w).alloc (Nat.le_refl _) (.cells #[.int .i64 1, .int .i64 2] 78)
  have HG := Lib.hid (goalsOf_no WB tb 1 mv (.slice (some ⟨w.heap.size, 0, none⟩) 2 2) (w.alloc (.cells #[.int .i64 1, .int .i64 2] 78)) (hW.alloc _) (hT.below bk))
  have HB := Lib.hid bk
  clear hW hT bk
  go_enter Tryz.func59, Tryz.ntmps59
  go_wp2_with fail
  refine HG.out.mono ?_
  rintro e w2 ⟨rfl, rfl⟩
  go_wp2_with fail
  go_ret
  exact ⟨rfl, HB.out⟩


theorem implHeaders_any (A : Option Addr) (cap : Nat) (g : List Bl) (w : World) (hg : Gr w A g) (hn : g.length + tot g ≤ 1048576) :
    Calls Tryz.prog 25 #[.slice A g.length cap] w fun e w' => e = .returned (.tuple #[.string (headV g), .bool (validB g)]) ∧ Below w.heap.size w w' := by
  unfold headV
  by_cases hv : validB g = true
  · rw [if_pos hv, hv]
    have HC := Lib.hid (wayOrderOf_yes A cap g w hg hn hv)
    have HV := Lib.hid hv
    have h26 := (valid_iff.1 hv).2.1
    clear hg hv
    go_enter Tryz.func25, Tryz.ntmps25
    go_wp2_with fail
    refine HC.out.mono ?_
    rintro e w1 ⟨WB, tb, NB, MB, A2, cap2, B, off, tcap, S, _, rfl, hO, hM, b1⟩
    have HO := Lib.hid hO
    have HB1 := Lib.hid b1
    have HG := Lib.hid (headers_own WB tb NB MB cap2 A2 g B off tcap S w1 HV.out hO hM)
    clear hO hM b1
    go_wp2_with fail
    refine HG.out.mono ?_
    rintro e w2 ⟨v, rfl, hown, b2⟩
    obtain ⟨A3, cap3, rfl, hP3, -⟩ := own_idx hown
    have HB2 := Lib.hid (HB1.out.trans (b2.mono HB1.out.size))
    have hll : (headL g).length ≤ 26 := by
      have h1 : (headL g).length ≤ (reachS g).length := goalL_len 1 backK
      have h2 := reachS_small HV.out
      omega
    have HJ := Lib.hid (joinIdx_any A3 NB cap3 g (headL g) w2 HV.out hP3 (HO.out.tree.nodes.below (b2)) (goalL_lt 1 backK) hll)
    clear hown hP3 b2 hll
    go_wp2_with fail
    refine HJ.out.mono ?_
    rintro e w3 ⟨rfl, b3⟩
    have HB3 := Lib.hid (HB2.out.trans (b3.mono HB2.out.size))
    clear b3
    go_wp2_with fail
    go_ret2
    exact ⟨rfl, HB3.out⟩
  · have hv : validB g = false := by simpa using hv
    rw [if_neg (by rw [hv]; simp), hv]
    have HC := Lib.hid (wayOrderOf_no A cap g w hg hn hv)
    clear hg hv
    go_enter Tryz.func25, Tryz.ntmps25
    go_wp2_with fail
    refine HC.out.mono ?_
    rintro e w1 ⟨WB, tb, mv, rfl, hW, hT, b1⟩
    have HB1 := Lib.hid b1
    have HG := Lib.hid (headers_no WB tb mv w1 hW hT)
    clear hW hT b1
    go_wp2_with fail
    refine HG.out.mono ?_
    rintro e w2 ⟨rfl, b2⟩
    have HB2 := Lib.hid (HB1.out.trans (b2.mono HB1.out.size))
    have HJ := Lib.hid (join_none none 0 w2)
    clear b2
    go_wp2_with fail
    refine HJ.out.mono ?_
    rintro e w3 ⟨rfl, b3⟩
    have HB3 := Lib.hid (HB2.out.trans (b3.mono HB2.out.size))
    clear b3
    go_wp2_with fail
    go_ret2
    exact ⟨rfl, HB3.out⟩

theorem implMeets_any (A : Option Addr) (cap : Nat) (g : List Bl) (w : World) (hg : Gr w A g) (hn : g.length + tot g ≤ 1048576) :
    Calls Tryz.prog 27 #[.slice A g.length cap] w fun e w' => e = .returned (.tuple #[.string (meetsV g), .bool (validB g)]) ∧ Below w.heap.size w w' := by
  unfold meetsV
  by_cases hv : validB g = true
  · rw [if_pos hv, hv]
    have HC := Lib.hid (wayOrderOf_yes A cap g w hg hn hv)
    have HV := Lib.hid hv
    have h26 := (valid_iff.1 hv).2.1
    clear hg hv
    go_enter Tryz.func27, Tryz.ntmps27
    go_wp2_with fail
    refine HC.out.mono ?_
    rintro e w1 ⟨WB, tb, NB, MB, A2, cap2, B, off, tcap, S, _, rfl, hO, hM, b1⟩
    have HO := Lib.hid hO
    have HB1 := Lib.hid b1
    have bk := (Below.refl w1.heap.size w1).alloc (Nat.le_refl _) (.cells #[.int .i64 0] 78)
    have k2 : KindsAt (w1.alloc (.cells #[.int .i64 0] 78)) w1.heap.size [0] := Blk.new w1 _ _
    have HG := Lib.hid (goalsOf_own 2 fwdK [0] w1.heap.size fwdK_mem (by decide) WB tb NB MB cap2 A2 g B off tcap S _ HV.out (hO.below bk) (hM.keep (bk.block MB hM.lt)) k2)
    have HB12 := Lib.hid (b1.trans (bk.mono b1.size))
    have HBK := Lib.hid bk
    clear bk k2
    clear hO hM b1
    go_wp2_with fail
    refine HG.out.mono ?_
    rintro e w2 ⟨v, rfl, hown, b2⟩
    obtain ⟨A3, cap3, rfl, hP3, -⟩ := own_idx hown
    have HB2 := Lib.hid (HB12.out.trans (b2.mono HB12.out.size))
    have hll : (meetsL g).length ≤ 26 := by
      have h1 : (meetsL g).length ≤ (reachS g).length := goalL_len 2 fwdK
      have h2 := reachS_small HV.out
      omega
    have HJ := Lib.hid (joinIdx_any A3 NB cap3 g (meetsL g) w2 HV.out hP3 (HO.out.tree.nodes.below (HBK.out.trans (b2.mono HBK.out.size))) (goalL_lt 2 fwdK) hll)
    clear hown hP3 b2 hll
    go_wp2_with fail
    refine HJ.out.mono ?_
    rintro e w3 ⟨rfl, b3⟩
    have HB3 := Lib.hid (HB2.out.trans (b3.mono HB2.out.size))
    clear b3
    go_wp2_with fail
    go_ret2
    exact ⟨rfl, HB3.out⟩
  · have hv : validB g = false := by simpa using hv
    rw [if_neg (by rw [hv]; simp), hv]
    have HC := Lib.hid (wayOrderOf_no A cap g w hg hn hv)
    clear hg hv
    go_enter Tryz.func27, Tryz.ntmps27
    go_wp2_with fail
    refine HC.out.mono ?_
    rintro e w1 ⟨WB, tb, mv, rfl, hW, hT, b1⟩
    have HB1 := Lib.hid b1
    have bk := (Below.refl w1.heap.size w1).alloc (Nat.le_refl _) (.cells #[.int .i64 0] 78)
    have HG := Lib.hid ((goalsOf_no WB tb 2 mv (.slice (some ⟨w1.heap.size, 0, none⟩) 1 1) (w1.alloc (.cells #[.int .i64 0] 78)) (hW.alloc _) (hT.below bk)).mono fun e w' h => show e = .returned (.slice none 0 0) ∧ Below w1.heap.size w1 w' from ⟨h.1, h.2 ▸ bk⟩)
    clear bk
    clear hW hT b1
    go_wp2_with fail
    refine HG.out.mono ?_
    rintro e w2 ⟨rfl, b2⟩
    have HB2 := Lib.hid (HB1.out.trans (b2.mono HB1.out.size))
    have HJ := Lib.hid (join_none none 0 w2)
    clear b2
    go_wp2_with fail
    refine HJ.out.mono ?_
    rintro e w3 ⟨rfl, b3⟩
    have HB3 := Lib.hid (HB2.out.trans (b3.mono HB2.out.size))
    clear b3
    go_wp2_with fail
    go_ret2
    exact ⟨rfl, HB3.out⟩
end Go.Proofs.YtdolbmonmkjajaaGreat

/-
  Contract of the program's IsTame.
-/
namespace Go.Proofs.YtdolbmonmkjajaaGreat
open Go.RowKit Go.Sort Go.Shelf

theorem implIsTame_any (A : Option Addr) (cap : Nat) (g : List Bl) (w : World) (hg : Gr w A g) (hn : g.length + tot g ≤ 1048576) :
    Calls Tryz.prog 35 #[.slice A g.length cap] w fun e w' => e = .returned (.bool (tameB g)) ∧ Below w.heap.size w w' := by
  have HC := Lib.hid (implWild_any A cap g w hg hn)
  clear hg
  go_enter Tryz.func35, Tryz.ntmps35
  go_wp2_with fail
  refine HC.out.mono ?_
  rintro e w1 ⟨v, rfl, hown, b1⟩
  have HB1 := Lib.hid b1
  by_cases hv : validB g = true
  · rw [if_pos hv] at hown
    obtain ⟨A2, cap2, rfl, -⟩ := own_strs hown
    rw [hv]
    have HV := Lib.hid hv
    clear b1 hown hv
    simp only [List.length_map]
    by_cases hz : (jumpL g wildK).length = 0
    · have hzI : (((jumpL g wildK).length : Int) == 0) = true := by rw [hz]; rfl
      have HZ := Lib.hid hz
      clear hz
      go_wp2_with fail
      go_ret
      exact ⟨ret_b (by unfold tameB; rw [HV.out, decide_eq_true HZ.out]; rfl), HB1.out⟩
    · have hzI : (((jumpL g wildK).length : Int) == 0) = false := beq_eq_false_iff_ne.2 fun e => hz (Int.ofNat.inj e)
      have HZ := Lib.hid hz
      clear hz
      go_wp2_with fail
      go_ret
      exact ⟨ret_b (by unfold tameB; rw [HV.out, decide_eq_false HZ.out]; rfl), HB1.out⟩
  · have hv : validB g = false := by simpa using hv
    rw [hv]
    have HV := Lib.hid hv
    clear b1 hown hv
    go_wp2_with fail
    go_ret
    exact ⟨ret_b (by unfold tameB; rw [HV.out]; rfl), HB1.out⟩
end Go.Proofs.YtdolbmonmkjajaaGreat
