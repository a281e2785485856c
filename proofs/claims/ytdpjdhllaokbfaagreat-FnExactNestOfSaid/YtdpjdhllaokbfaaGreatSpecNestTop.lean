/-
  The model's NestOf: what it returns.
-/
import Derived.Test.YtdpjdhllaokbfaaGreatSpecNestOf
import Derived.Test.YtdpjdhllaokbfaaGreatNestTextP
namespace Go.Proofs.YtdpjdhllaokbfaaGreat
open Go.RowKit Go.Sort

set_option maxRecDepth 100000 in
theorem specNestOf_any (A : Option Addr) (cap : Nat) (g : List Bl) (w : World) (hg : Gr w A g) (hn : g.length + tot g ≤ 1048576) (hcap : g.length ≤ cap) :
    Calls Tryz.prog 28 #[.slice A g.length cap] w fun e w' => e = .returned (.tuple #[.string (nestV g), .bool (nestedB g)]) ∧ Below w.heap.size w w' := by
  have HN := Lib.hid (specNested_any A cap g w hg hn hcap)
  have HG := Lib.hid hg
  clear hg
  cases hnb : nestedB g with
  | false =>
    rw [hnb] at HN
    have HV := Lib.hid (show nestV g = ⟨#[]⟩ by unfold nestV; rw [hnb]; rfl)
    clear hnb
    go_enter Tryz.func28, Tryz.ntmps28
    go_wp2_with fail
    refine HN.out.mono ?_
    rintro e w1 ⟨rfl, b1⟩
    go_wp2_with fail
    go_ret2
    exact ⟨by rw [HV.out]; rfl, b1⟩
  | true =>
    rw [hnb] at HN
    obtain ⟨hv, hnn⟩ := nested_none hnb
    obtain ⟨rs, hrs⟩ : ∃ rs, rs = namesAt g (reachS g) := ⟨_, rfl⟩
    have HR1 := Lib.hid (fun w (h : Gr w A g) => (l1Reached_any A cap g w h hn hv).mono fun e w' h => show e = .returned (.string rs) ∧ Below w.heap.size w w' from hrs ▸ h)
    have HP1 := Lib.hid (fun w (h : Gr w A g) => l10Nest_any A cap g hn hv 26 (reachS g) [] rs ⟨#[]⟩ w h (reachS_up g) (fun _ h => h) (fun x hx => by cases hx) (fun x _ hx => by cases hx) (reachS_len hv) (by simp) hrs rfl hnn)
    have HV := Lib.hid (show nestV g = txL g (nestF g 26 (reachS g)) by unfold nestV; rw [hnb]; rfl)
    clear hnb hv hnn hrs
    go_enter Tryz.func28, Tryz.ntmps28
    go_wp2_with fail
    refine HN.out.mono ?_
    rintro e w1 ⟨rfl, b1⟩
    have HB1 := Lib.hid b1
    clear b1
    go_wp2_with fail
    refine (HR1.out w1 (HG.out.below HB1.out)).mono ?_
    rintro e w2 ⟨rfl, b2⟩
    have HB2 := Lib.hid (HB1.out.trans (b2.mono HB1.out.size))
    clear b2
    go_wp2_with fail
    refine (HP1.out w2 (HG.out.below HB2.out)).mono ?_
    rintro e w3 ⟨rfl, b3⟩
    have HB3 := Lib.hid (HB2.out.trans (b3.mono HB2.out.size))
    clear b3
    go_wp2_with fail
    go_ret2
    exact ⟨by rw [HV.out]; rfl, HB3.out⟩
end Go.Proofs.YtdpjdhllaokbfaaGreat
