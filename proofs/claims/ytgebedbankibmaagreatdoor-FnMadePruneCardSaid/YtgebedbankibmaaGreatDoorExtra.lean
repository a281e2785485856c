/-
  Some theorems more.
-/
import Derived.Test.YtgebedbankibmaaGreatDoorMakeFace
import Derived.Test.YtgebedbankibmaaGreatDoorLoopMath
import Derived.Test.YtgebedbankibmaaGreatDoorOrders
namespace Go.Proofs.YtgebedbankibmaaGreatDoor
attribute [local go_sem] Oper.semAt_some
/-- The entry has no parent. -/
theorem par_entry {g : List Bl} {p : Nat} (h : Par g p 0) : False :=
  h.1 (Dm.of_entry ((h.2.2 p).2 (.inr (.refl g p))))
end Go.Proofs.YtgebedbankibmaaGreatDoor

namespace Go.Proofs.YtgebedbankibmaaGreatDoor
attribute [local go_sem] Oper.semAt_some
/-- Each block that is put is the first one or one goes on to it that stands ahead. -/
theorem visit_pred (nx : Nat → List Nat) : ∀ (m i : Nat) (st : List Nat × List Nat), ∃ D, (visit nx m i st).2 = D ++ st.2 ∧ ∀ x ∈ D, x = i ∨ ∃ p, x ∈ nx p ∧ [p, x].Sublist D
  | 0, i, st => ⟨[], rfl, by simp⟩
  | m + 1, i, st => by
    have ih := visit_pred nx m
    have inner : ∀ (ts : List Nat) (st : List Nat × List Nat), ∃ D, (visits nx m st ts).2 = D ++ st.2 ∧ ∀ x ∈ D, x ∈ ts ∨ ∃ p, x ∈ nx p ∧ [p, x].Sublist D := by
      intro ts
      induction ts with
      | nil => intro st; exact ⟨[], rfl, by simp⟩
      | cons t ts iht =>
        intro st
        rw [visits_cons]
        by_cases ht : t ∈ st.1
        · rw [if_pos ht]
          obtain ⟨D, e, h⟩ := iht st
          exact ⟨D, e, fun x hx => (h x hx).imp (List.mem_cons_of_mem _) id⟩
        · rw [if_neg ht]
          obtain ⟨D1, e1, h1⟩ := ih t st
          obtain ⟨D, e, h⟩ := iht (visit nx m t st)
          refine ⟨D ++ D1, by rw [e, e1, List.append_assoc], fun x hx => ?_⟩
          rcases List.mem_append.1 hx with hx | hx
          · rcases h x hx with q | ⟨p, q, r⟩
            · exact .inl (List.mem_cons_of_mem _ q)
            · exact .inr ⟨p, q, r.trans (List.sublist_append_left _ _)⟩
          · rcases h1 x hx with q | ⟨p, q, r⟩
            · exact .inl (by rw [q]; simp)
            · exact .inr ⟨p, q, r.trans (List.sublist_append_right _ _)⟩
    obtain ⟨D, e, h⟩ := inner (nx i).reverse (st.1 ++ [i], st.2)
    refine ⟨i :: D, by rw [visit_succ]; simp only [e]; rfl, fun x hx => ?_⟩
    rcases List.mem_cons.1 hx with q | hx
    · exact .inl q
    · rcases h x hx with q | ⟨p, q, r⟩
      · exact .inr ⟨i, List.mem_reverse.1 q, List.Sublist.cons_cons i (List.singleton_sublist.2 hx)⟩
      · exact .inr ⟨p, q, r.cons i⟩


/-- To each reached block but the entry one goes forward. -/
theorem fwd_pred {g : List Bl} (hv : validB g = true) {t : Nat} (ht : Rch g [] t) (h0 : t ≠ 0) : ∃ i, Rch g [] i ∧ t ∈ nxt g i ∧ placeN g i < placeN g t := by
  obtain ⟨D, e, h⟩ := visit_pred (nxt g) g.length 0 ([], [])
  have e' : wayOrd g = D := by unfold wayOrd; rw [e, List.append_nil]
  have hm : t ∈ D := e' ▸ (mem_wayOrd hv).2 ht
  rcases h t hm with q | ⟨p, q, r⟩
  · exact absurd q h0
  · rw [← e'] at r
    exact ⟨p, (mem_wayOrd hv).1 (r.subset (by simp)), q, sub_place (wayOrd_nodup hv) r⟩

end Go.Proofs.YtgebedbankibmaaGreatDoor

namespace Go.Proofs.YtgebedbankibmaaGreatDoor
open Go.RowKit Go.Sort

open Go.RowKit Go.Sort
attribute [local go_sem] Oper.semAt_some
theorem visK_all {g : List Bl} (hv : validB g = true) (hT : Tame g) {n c : Nat} (hc : Rch g [] c) (hp : Par g n c) : c ∈ visK g n := by
  by_cases hm : c ∈ meetsL g
  · exact List.mem_append_left _ ((mem_belowL hv).2 ⟨hc, hm, hp⟩)
  · refine List.mem_append_right _ (mem_bareK.2 ?_)
    have h0 : c ≠ 0 := fun e => par_entry (e ▸ hp)
    obtain ⟨i, hi, h1, h2⟩ := fwd_pred hv hc h0
    have := par_one (fwd_par hv hT hm hi h1 h2) hp
    subst this
    exact ⟨h1, h2, hm⟩
end Go.Proofs.YtgebedbankibmaaGreatDoor

namespace Go.Proofs.YtgebedbankibmaaGreatDoor
open Go.RowKit Go.Sort

open Go.RowKit Go.Sort

attribute [local go_sem] Oper.semAt_some
theorem bfs_get {g : List Bl} {k : Nat} (hk : k ≤ g.length) (h : k < (bfs g k).length) : (bfs g k).take (k + 1) = (reach g).take (k + 1) := by
  obtain ⟨t, ht⟩ := bfs_reach (g := g) hk
  rw [← ht, List.take_append_of_le_length (by omega)]

end Go.Proofs.YtgebedbankibmaaGreatDoor

namespace Go.Proofs.YtgebedbankibmaaGreatDoor
open Go.RowKit Go.Sort Go.Shelf Go.Maps Go.WideMaps

open Go.RowKit Go.Sort Go.Shelf Go.Maps Go.WideMaps

open Go.RowKit Go.Sort Go.Shelf Go.Maps Go.WideMaps

open Go.RowKit Go.Sort Go.Shelf

open Go.RowKit Go.Sort

attribute [local go_sem] Oper.semAt_some
theorem implIsTame_any (A : Option Addr) (cap : Nat) (g : List Bl) (w : World) (hg : Gr w A g) (hn : g.length + tot g ≤ 1048576) :
    Calls Tryz.prog 15 #[.slice A g.length cap] w fun e w' => e = .returned (.bool (tameB g)) ∧ Below w.heap.size w w' := by
  by_cases hv : validB g = true
  · have HC := Lib.hid (wayOrderOf_yes A cap g w hg hn hv)
    have HV := Lib.hid hv
    clear hg hv
    go_enter Tryz.func15, Tryz.ntmps15
    go_wp2_with fail
    refine HC.out.mono ?_
    rintro e w1 ⟨WB, tb, NB, MB, A2, cap2, B, off, tcap, S, _, rfl, hO, hM, b1⟩
    have HT := Lib.hid (tame_own WB tb NB MB cap2 A2 g B off tcap S w1 HV.out hO hM)
    have HB1 := Lib.hid b1
    clear hO hM b1
    go_wp2_with fail
    refine HT.out.mono ?_
    rintro e w2 ⟨rfl, b2⟩
    have HB2 := Lib.hid (HB1.out.trans (b2.mono HB1.out.size))
    clear b2
    go_wp2_with fail
    go_ret
    exact ⟨ret_b (by unfold tameB; rw [HV.out]; simp), HB2.out⟩
  · have hv : validB g = false := by simpa using hv
    have HC := Lib.hid (wayOrderOf_no A cap g w hg hn hv)
    have HV := Lib.hid hv
    clear hg hv
    go_enter Tryz.func15, Tryz.ntmps15
    go_wp2_with fail
    refine HC.out.mono ?_
    rintro e w1 ⟨WB, tb, mv, rfl, _, _, b1⟩
    have HB1 := Lib.hid b1
    clear b1
    go_wp2_with fail
    go_ret
    exact ⟨ret_b (by unfold tameB; rw [HV.out]; rfl), HB1.out⟩
end Go.Proofs.YtgebedbankibmaaGreatDoor

namespace Go.Proofs.YtgebedbankibmaaGreatDoor
open Go.RowKit Go.Sort
open Go.RowKit Go.Sort
attribute [local go_sem] Oper.semAt_some
theorem madeV_small (g : List Bl) : (madeV g).size ≤ 416 := by
  unfold madeV
  split
  · rename_i h
    unfold madeB at h
    rw [Bool.and_eq_true] at h
    rw [tb_size]
    exact madeT_small h.1
  · exact Nat.zero_le _

/-- What MakeLength answers. -/
noncomputable def madeN (g : List Bl) : Int := if madeB g = true then ((madeV g).size : Int) else -1

set_option maxRecDepth 100000 in
theorem specMakeLength_any (A : Option Addr) (cap : Nat) (g : List Bl) (w : World) (hg : Gr w A g) (hn : g.length + tot g ≤ 1048576) (hcap : g.length ≤ cap) :
    Calls Tryz.prog 20 #[.slice A g.length cap] w fun e w' => e = .returned (.int .i64 (madeN g)) ∧ Below w.heap.size w w' := by
  have HC := Lib.hid (specMakeText_any A cap g w hg hn hcap)
  have hz := madeV_small g
  clear hg
  cases hb : madeB g with
  | true =>
    have HB := Lib.hid hb
    rw [hb] at HC
    clear hb
    go_enter Tryz.func20, Tryz.ntmps20
    go_wp2_with fail
    refine HC.out.mono ?_
    rintro e w1 ⟨rfl, b1⟩
    have HB1 := Lib.hid b1
    clear b1
    go_wp2_with fail
    go_ret
    exact ⟨by unfold madeN; rw [HB.out]; rfl, HB1.out⟩
  | false =>
    have HB := Lib.hid hb
    rw [hb] at HC
    clear hb
    go_enter Tryz.func20, Tryz.ntmps20
    go_wp2_with fail
    refine HC.out.mono ?_
    rintro e w1 ⟨rfl, b1⟩
    have HB1 := Lib.hid b1
    clear b1
    go_wp2_with fail
    go_ret
    exact ⟨by unfold madeN; rw [HB.out]; rfl, HB1.out⟩

set_option maxRecDepth 100000 in
theorem specCanMake_any (A : Option Addr) (cap : Nat) (g : List Bl) (w : World) (hg : Gr w A g) (hn : g.length + tot g ≤ 1048576) (hcap : g.length ≤ cap) :
    Calls Tryz.prog 12 #[.slice A g.length cap] w fun e w' => e = .returned (.bool (madeB g)) ∧ Below w.heap.size w w' := by
  have HC := Lib.hid (specMakeLength_any A cap g w hg hn hcap)
  have hd : decide (0 ≤ madeN g) = madeB g := by
    unfold madeN
    cases madeB g <;> simp
  have HD := Lib.hid hd
  clear hg hd
  go_enter Tryz.func12, Tryz.ntmps12
  go_wp2_with fail
  refine HC.out.mono ?_
  rintro e w1 ⟨rfl, b1⟩
  have HB1 := Lib.hid b1
  clear b1
  go_wp2_with fail
  go_ret
  exact ⟨ret_b HD.out, HB1.out⟩
end Go.Proofs.YtgebedbankibmaaGreatDoor

namespace Go.Proofs.YtgebedbankibmaaGreatDoor
open Go.RowKit Go.Sort Go.Shelf

open Go.RowKit Go.Sort Go.Shelf

attribute [local go_sem] Oper.semAt_some
set_option maxRecDepth 100000 in
theorem implCanMake_any (A : Option Addr) (cap : Nat) (g : List Bl) (w : World) (hg : Gr w A g) (hn : g.length + tot g ≤ 1048576) :
    Calls Tryz.prog 11 #[.slice A g.length cap] w fun e w' => e = .returned (.bool (madeB g)) ∧ Below w.heap.size w w' := by
  have HC := Lib.hid (madeOf_any A cap g w hg hn)
  clear hg
  go_enter Tryz.func11, Tryz.ntmps11
  go_wp2_with fail
  refine HC.out.mono ?_
  rintro e w1 ⟨⟨hb, x, v, c, hxg, hxl, hx, rfl, hM⟩ | ⟨hb, rfl⟩, b1⟩
  · have HB1 := Lib.hid b1
    have HBB := Lib.hid hb
    clear b1 hM hb hx
    go_wp2_with fail
    go_ret
    exact ⟨ret_b (by rw [HBB.out]), HB1.out⟩
  · have HB1 := Lib.hid b1
    have HBB := Lib.hid hb
    clear b1 hb
    go_wp2_with fail
    go_ret
    exact ⟨ret_b (by rw [HBB.out]), HB1.out⟩
end Go.Proofs.YtgebedbankibmaaGreatDoor
