import Derived.Test.YtlkfakdghjaoaaaGreatDoorJ6
import Derived.Test.YtlkfakdghjaoaaaGreatDoorFramesIn
namespace Go.Proofs.YtlkfakdghjaoaaaGreatDoor
open Go.RowKit Go.Sort
attribute [local go_sem] Oper.semAt_some
end Go.Proofs.YtlkfakdghjaoaaaGreatDoor
namespace Go.Proofs.YtlkfakdghjaoaaaGreatDoor
open Go.RowKit Go.Sort
attribute [local go_sem] Oper.semAt_some
open Classical in
noncomputable def countZ (s kd : List UInt8) : Int := if h : ∃ l c, textOk s l ∧ kd = [c] ∧ c ∈ [88, 63, 40, 123, 94, 46, 61, 35] then (cnL h.choose_spec.choose h.choose : Int) else -1
theorem countZ_yes {s kd : List UInt8} {l : List It} {c : UInt8} (h : textOk s l) (hk : kd = [c]) (hc : c ∈ ([88, 63, 40, 123, 94, 46, 61, 35] : List UInt8)) : countZ s kd = (cnL c l : Int) := by
 have k : ∃ l c, textOk s l ∧ kd = [c] ∧ c ∈ ([88, 63, 40, 123, 94, 46, 61, 35] : List UInt8) := ⟨l, c, h, hk, hc⟩
 unfold countZ
 rw [dif_pos k]
 have h1 := k.choose_spec.choose_spec
 have e1 := textOk_uniq h1.1 h
 have e2 : k.choose_spec.choose = c := (List.cons.inj (h1.2.1.symm.trans hk)).1
 rw [e2, e1]
theorem countZ_no {s kd : List UInt8} (h : ∀ l c, textOk s l → kd = [c] → c ∈ ([88, 63, 40, 123, 94, 46, 61, 35] : List UInt8) → False) : countZ s kd = -1 :=
 dif_neg fun ⟨l, c, h1, h2, h3⟩ => h l c h1 h2 h3
theorem kinds_find (c : UInt8) : (c ∈ ([88, 63, 40, 123, 94, 46, 61, 35] : List UInt8) ∧ (Lib.indexByte [88, 63, 40, 123, 94, 46, 61, 35] c < 0) = False) ∨ (c ∉ ([88, 63, 40, 123, 94, 46, 61, 35] : List UInt8) ∧ (Lib.indexByte [88, 63, 40, 123, 94, 46, 61, 35] c < 0) = True) := by
 have h : ∀ n : Fin 256, (UInt8.ofNat n.1 ∈ ([88, 63, 40, 123, 94, 46, 61, 35] : List UInt8) ∧ ¬ (Lib.indexByte [88, 63, 40, 123, 94, 46, 61, 35] (UInt8.ofNat n.1) < 0)) ∨ (UInt8.ofNat n.1 ∉ ([88, 63, 40, 123, 94, 46, 61, 35] : List UInt8) ∧ Lib.indexByte [88, 63, 40, 123, 94, 46, 61, 35] (UInt8.ofNat n.1) < 0) := by decide +kernel
 have h1 := h ⟨c.toNat, c.toNat_lt⟩
 simp only [UInt8.ofNat_toNat] at h1
 rcases h1 with ⟨a, b⟩ | ⟨a, b⟩
 ·exact .inl ⟨a, eq_false b⟩
 ·exact .inr ⟨a, eq_true b⟩
end Go.Proofs.YtlkfakdghjaoaaaGreatDoor
