/-
  The model's PartsOf.
-/
import Derived.Test.YtdpjdhllaokbfaaGreatSpecList
import Derived.Test.YtdpjdhllaokbfaaGreatValids
namespace Go.Proofs.YtdpjdhllaokbfaaGreat
open Go.RowKit Go.Sort

theorem partsV_yes {g : List Bl} (hv : validB g = true) : partsV g = (prtL g (reachS g) (reachS g)).map (namesAt g) := by
  unfold partsV
  rw [if_pos hv, ← prtL_outer (m := 25)]
  unfold partNs nestG
  rw [List.map_map]; rfl
theorem partsV_no {g : List Bl} (hv : validB g = false) : partsV g = [] := by unfold partsV; rw [hv]; rfl
theorem prtL_len (g : List Bl) (S W : List Nat) : (prtL g S W).length ≤ W.length := List.length_filterMap_le _ _
theorem partsV_len (g : List Bl) : (partsV g).length ≤ 26 := by
  cases hv : validB g with
  | false => rw [partsV_no hv]; exact Nat.zero_le _
  | true => rw [partsV_yes hv, List.length_map]; exact Nat.le_trans (prtL_len _ _ _) (reachS_len hv)
set_option maxRecDepth 100000 in
theorem specPartsOf_any (A : Option Addr) (cap : Nat) (g : List Bl) (w : World) (hg : Gr w A g) (hn : g.length + tot g ≤ 1048576) (hcap : g.length ≤ cap) :
    Calls Tryz.prog 12 #[.slice A g.length cap] w fun e w' => ∃ v, e = .returned (.tuple #[v, .bool (validB g)]) ∧ OwnStr w' w.heap.size v (partsV g) ∧ Below w.heap.size w w' := by
  have HC := Lib.hid (specValid_any A cap g w hg hn hcap)
  have HG := Lib.hid hg
  clear hg
  cases hv : validB g with
  | false =>
    rw [hv] at HC
    have HE := Lib.hid (partsV_no hv)
    clear hv
    go_enter Tryz.func12, Tryz.ntmps12
    go_wp2_with fail
    refine HC.out.mono ?_
    rintro e w1 ⟨rfl, b1⟩
    have HB1 := Lib.hid b1
    have HOW := Lib.hid (World.ownsRow_made (base := w.heap.size) (e := 9) (size := 1) w1 #[] 0 b1.size (Nat.zero_le _) rfl)
    clear b1
    go_wp2_with fail
    go_ret2
    exact ⟨_, rfl, by rw [HE.out]; exact HOW.out, HB1.out.alloc HB1.out.size _⟩
  | true =>
    rw [hv] at HC
    have HE := Lib.hid (partsV_yes hv)
    obtain ⟨rs, hrs⟩ : ∃ rs, rs = namesAt g (reachS g) := ⟨_, rfl⟩
    have HR1 := Lib.hid (fun w (h : Gr w A g) => (l1Reached_any A cap g w h hn hv).mono fun e w' h => show e = .returned (.string rs) ∧ Below w.heap.size w w' from hrs ▸ h)
    have HP1 := Lib.hid (fun w (h : Gr w A g) => l10Parts_any A cap g (reachS g) [] rs ⟨#[]⟩ w h hn hv (reachS_up g) (reach_ok hv) (fun x hx => by cases hx) (by simp) hrs rfl)
    rw [cutL_nil] at HP1
    clear hv hrs
    go_enter Tryz.func12, Tryz.ntmps12
    go_wp2_with fail
    refine HC.out.mono ?_
    rintro e w1 ⟨rfl, b1⟩
    have HB1 := Lib.hid b1
    clear b1
    go_wp2_with fail
    refine (HR1.out w1 (HG.out.below HB1.out)).mono ?_
    rintro e w2 ⟨rfl, b2⟩
    have HB2 := Lib.hid (HB1.out.trans (b2.mono HB1.out.size))
    clear b2
    go_wp2_with fail
    refine (HP1.out w2 (HG.out.below HB2.out)).mono ?_
    rintro e w3 ⟨v, rfl, ho, b3⟩
    have HB3 := Lib.hid (HB2.out.trans (b3.mono HB2.out.size))
    have HO := Lib.hid (World.ownsRow.mono ho HB2.out.size)
    clear b3 ho
    go_wp2_with fail
    go_ret2
    exact ⟨v, rfl, by rw [HE.out]; exact HO.out, HB3.out⟩
end Go.Proofs.YtdpjdhllaokbfaaGreat
