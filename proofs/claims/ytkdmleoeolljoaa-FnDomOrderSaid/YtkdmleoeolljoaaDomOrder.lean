/-
  The law FnDomOrder, walked.
-/
import Derived.Test.YtkdmleoeolljoaaDrawTwo
import Derived.Test.YtkdmleoeolljoaaDominatorsOf
import Derived.Test.YtkdmleoeolljoaaDomLaws
namespace Go.Proofs.Ytkdmleoeolljoaa
open Go.RowKit Go.Sort

set_option maxRecDepth 100000 in
set_option maxHeartbeats 8000000 in
theorem domOrder_walk (A B : Option Addr) (la ca lb cb : Nat) (w : World) (hA : Bytes w A la) (hB : Bytes w B lb) (h1 : la ≤ ca) (h2 : lb ≤ cb) (h3 : ca ≤ 9223372036854775807) (h4 : cb ≤ 9223372036854775807) :
    Calls Try.prog 10 #[.slice A la ca, .slice B lb cb] w fun e w' => e = .returned (.bool true) ∧ Below w.heap.size w w' := by
  by_cases g1 : (1048576 : Int) < la
  · clear hA hB
    go_enter Try.func10, Try.ntmps10
    go_wp2_with fail
    go_ret
    exact ⟨rfl, Below.refl _ _⟩
  by_cases g2 : (1048576 : Int) < lb
  · clear hA hB
    go_enter Try.func10, Try.ntmps10
    go_wp2_with fail
    go_ret
    exact ⟨rfl, Below.refl _ _⟩
  have HA := Lib.hid (drawDominates_any A la ca w hA h1 h3)
  have HBB := Lib.hid hB
  clear hA hB
  go_enter Try.func10, Try.ntmps10
  go_wp2_with fail
  refine HA.out.mono ?_
  rintro e w1 ⟨A1, c1, g, a, b, rfl, hc1, gg, hn1, _, _, b1⟩
  have HB := Lib.hid (drawDominates_any B lb cb w1 (Bytes.below HBB.out b1) h2 h4)
  have HG1 := Lib.hid gg
  have HB1 := Lib.hid b1
  clear gg b1
  go_wp2_with fail
  refine HB.out.mono ?_
  rintro e w2 ⟨A2, c2, h, c, c', rfl, _, _, _, _, _, b2⟩
  have HG := Lib.hid (HG1.out.below b2)
  have HB2 := Lib.hid (below_trans_self HB1.out b2)
  clear b2
  obtain ⟨ab, hab⟩ : ∃ x, x = domB g a b := ⟨_, rfl⟩
  obtain ⟨ba, hba⟩ : ∃ x, x = domB g b a := ⟨_, rfl⟩
  obtain ⟨bc, hbc⟩ : ∃ x, x = domB g b c := ⟨_, rfl⟩
  obtain ⟨ac, hac⟩ : ∃ x, x = domB g a c := ⟨_, rfl⟩
  obtain ⟨la, hla⟩ : ∃ x, x = liveB g a := ⟨_, rfl⟩
  have HI : Hid (∀ s t W, Below w2.heap.size w2 W → Calls Try.prog 18 #[.slice A1 g.length c1, .string s, .string t] W fun e W' => e = .returned (.bool (domB g s t)) ∧ Below w2.heap.size w2 W') := fun s t W hb =>
    (implDominates_any A1 c1 g s t W (HG.out.below hb) (by omega)).mono fun e W' ⟨he, hb2⟩ => ⟨he, hb.trans (hb2.mono hb.size)⟩
  have HAB : Hid (∀ W, Below w2.heap.size w2 W → Calls Try.prog 18 #[.slice A1 g.length c1, .string a, .string b] W fun e W' => e = .returned (.bool ab) ∧ Below w2.heap.size w2 W') := fun W hb => hab ▸ HI.out a b W hb
  have HBA : Hid (∀ W, Below w2.heap.size w2 W → Calls Try.prog 18 #[.slice A1 g.length c1, .string b, .string a] W fun e W' => e = .returned (.bool ba) ∧ Below w2.heap.size w2 W') := fun W hb => hba ▸ HI.out b a W hb
  have HBC : Hid (∀ W, Below w2.heap.size w2 W → Calls Try.prog 18 #[.slice A1 g.length c1, .string b, .string c] W fun e W' => e = .returned (.bool bc) ∧ Below w2.heap.size w2 W') := fun W hb => hbc ▸ HI.out b c W hb
  have HAC : Hid (∀ W, Below w2.heap.size w2 W → Calls Try.prog 18 #[.slice A1 g.length c1, .string a, .string c] W fun e W' => e = .returned (.bool ac) ∧ Below w2.heap.size w2 W') := fun W hb => hac ▸ HI.out a c W hb
  have HAA : Hid (∀ W, Below w2.heap.size w2 W → Calls Try.prog 18 #[.slice A1 g.length c1, .string a, .string a] W fun e W' => e = .returned (.bool la) ∧ Below w2.heap.size w2 W') := fun W hb => by
    have := HI.out a a W hb
    rw [domB_self, ← hla] at this
    exact this
  have HSP : Hid (∀ W, Below w2.heap.size w2 W → Calls Try.prog 17 #[.slice A1 g.length c1, .string a, .string b] W fun e W' => e = .returned (.bool ab) ∧ Below w2.heap.size w2 W') := fun W hb =>
    hab ▸ (specDominates_any A1 c1 g a b W (HG.out.below hb) (by omega) hc1).mono fun e W' ⟨he, hb2⟩ => ⟨he, hb.trans (hb2.mono hb.size)⟩
  have HDO : Hid (∀ W, Below w2.heap.size w2 W → Calls Try.prog 15 #[.slice A1 g.length c1, .string a] W fun e W' => e = .returned (.tuple #[.string (domV g a), .bool la]) ∧ Below w2.heap.size w2 W') := fun W hb =>
    hla ▸ (implDominators_any A1 c1 g a W (HG.out.below hb) (by omega)).mono fun e W' ⟨he, hb2⟩ => ⟨he, hb.trans (hb2.mono hb.size)⟩
  have HNE : Hid (ab = true → ba = true → (a.toList == b.toList) = true) := fun e1 e2 => by
    have := domB_anti (hab ▸ e1) (hba ▸ e2)
    rw [this]; simp
  have HTR : Hid (ab = true → bc = true → ac = true) := fun e1 e2 => hac.trans (domB_trans (hab ▸ e1) (hbc ▸ e2))
  have HLN : Hid (ac = true → bc = true → ab = true ∨ ba = true) := fun e1 e2 => by
    rw [hab, hba]; exact domB_line (hac ▸ e1) (hbc ▸ e2)
  have hb := Below.refl w2.heap.size w2
  have hl2 : (la == la) = true := by simp
  clear HI hab hba hbc hac hla
  cases ab <;> cases ba <;> cases bc <;> cases ac
  all_goals first
    | exact absurd (HTR.out rfl rfl) Bool.false_ne_true
    | exact (HLN.out rfl rfl).elim (fun h => absurd h Bool.false_ne_true) (fun h => absurd h Bool.false_ne_true)
    | skip
  all_goals
    try have q0 := HNE.out rfl rfl
    clear HTR HLN HNE
    iterate 9
      try
        go_wp2_with fail
        first
          | ((with_reducible refine (HAB.out _ (by assumption)).mono ?_); rintro e W ⟨rfl, hb⟩)
          | ((with_reducible refine (HBA.out _ (by assumption)).mono ?_); rintro e W ⟨rfl, hb⟩)
          | ((with_reducible refine (HSP.out _ (by assumption)).mono ?_); rintro e W ⟨rfl, hb⟩)
          | ((with_reducible refine (HBC.out _ (by assumption)).mono ?_); rintro e W ⟨rfl, hb⟩)
          | ((with_reducible refine (HAC.out _ (by assumption)).mono ?_); rintro e W ⟨rfl, hb⟩)
          | ((with_reducible refine (HAA.out _ (by assumption)).mono ?_); rintro e W ⟨rfl, hb⟩)
          | ((with_reducible refine (HDO.out _ (by assumption)).mono ?_); rintro e W ⟨rfl, hb⟩)
    go_wp2_with fail
    go_ret
    exact ⟨rfl, HB2.out.trans ((by assumption : Below w2.heap.size w2 _).mono HB2.out.size)⟩
end Go.Proofs.Ytkdmleoeolljoaa
