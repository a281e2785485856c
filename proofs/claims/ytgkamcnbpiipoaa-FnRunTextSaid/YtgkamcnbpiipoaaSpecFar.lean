/-
  FarthestLeave of the model.
-/
import Derived.Test.YtgkamcnbpiipoaaSpecEach
import Derived.Test.YtgkamcnbpiipoaaFramesIn
namespace Go.Proofs.Ytgkamcnbpiipoaa
open Go.RowKit Go.Sort
attribute [local go_sem] Oper.semAt_some

open Classical in
/-- How many frames a step leaves at most; -1 if it is no text. -/
noncomputable def farZ (s : List UInt8) : Int := if h : ∃ l, textOk s l then (faL h.choose : Int) else -1
theorem farZ_yes {s : List UInt8} {l : List It} (h : textOk s l) : farZ s = (faL l : Int) := by
  have k : ∃ l, textOk s l := ⟨l, h⟩
  unfold farZ
  rw [dif_pos k, textOk_uniq k.choose_spec h]
theorem farZ_no {s : List UInt8} (h : ∀ l, ¬ textOk s l) : farZ s = -1 := dif_neg fun ⟨l, hl⟩ => h l hl

theorem far_flL (l : List It) : mostF lvI 0 (flL l) = faL l := by
  have h := fa_evL l 0 0
  have e : mostF lvI 0 (flL l) = mostF (fun p => lvI p.2) 0 (evL l 0) := by unfold mostF flL; rw [List.foldl_map]
  rw [e, h]; omega

theorem leave_cases (i : It) : ((((kindI i).toNat : Int) == 94) = true ∧ lvI i = numI i + 1) ∨ ((((kindI i).toNat : Int) == 94) = false ∧ lvI i = 0) := by
  cases i with
  | leave n => exact .inl ⟨rfl, rfl⟩
  | frame b l => cases b <;> exact .inr ⟨rfl, rfl⟩
  | _ => exact .inr ⟨rfl, rfl⟩
theorem mostF_step {p : It → Nat} {l : List It} {j : Nat} (h : j < l.length) : mostF p 0 (l.take (j + 1)) = max (mostF p 0 (l.take j)) (p l[j]) := by
  rw [List.take_succ_eq_append_getElem h, mostF_append]; rfl

end Go.Proofs.Ytgkamcnbpiipoaa

/-
  CountItems of the model: how many items of a kind; plain facts.
-/
namespace Go.Proofs.Ytgkamcnbpiipoaa
open Go.RowKit Go.Sort
attribute [local go_sem] Oper.semAt_some

theorem count_drewN (w : World) (n : Nat) : Below w.heap.size w (w.drewN n) := ⟨rfl, rfl, rfl, Nat.le_refl _, fun _ _ => rfl⟩
theorem kindI_kdI (i : It) : kindI i = kdI i := by
  cases i with
  | frame b l => cases b <;> rfl
  | _ => rfl
theorem cn_flL (kd : UInt8) (l : List It) : (flL l).countP (fun i => decide (kdI i = kd)) = cnL kd l := by
  have h := cn_evL kd l 0
  rw [← h]; unfold flL; rw [List.countP_map]; rfl
def cntK (kd : UInt8) (l : List It) : Nat := l.countP fun i => decide (kdI i = kd)
theorem cntK_step {kd : UInt8} {l : List It} {j : Nat} (h : j < l.length) : cntK kd (l.take (j + 1)) = cntK kd (l.take j) + (if kdI l[j] = kd then 1 else 0) := by
  unfold cntK
  rw [List.take_succ_eq_append_getElem h, List.countP_append, List.countP_cons, List.countP_nil, Nat.zero_add]
  simp
theorem cntK_le (kd : UInt8) (l : List It) : cntK kd l ≤ l.length := List.countP_le_length ..
theorem same_kind (i : It) (kd : UInt8) : ((((kindI i).toNat : Int) == (kd.toNat : Int)) = true ∧ kdI i = kd) ∨ ((((kindI i).toNat : Int) == (kd.toNat : Int)) = false ∧ kdI i ≠ kd) := by
  rw [kindI_kdI]
  by_cases h : kdI i = kd
  · exact .inl ⟨by rw [h]; simp, h⟩
  · refine .inr ⟨?_, h⟩
    have : (kdI i).toNat ≠ kd.toNat := fun e => h (UInt8.toNat_inj.1 e)
    simp; omega

open Classical in
/-- How many items of a kind a text has; -1 if it is no text, or that no kind. -/
noncomputable def countZ (s kd : List UInt8) : Int := if h : ∃ l c, textOk s l ∧ kd = [c] ∧ c ∈ [88, 63, 40, 123, 94, 46, 61, 35] then (cnL h.choose_spec.choose h.choose : Int) else -1
theorem countZ_yes {s kd : List UInt8} {l : List It} {c : UInt8} (h : textOk s l) (hk : kd = [c]) (hc : c ∈ ([88, 63, 40, 123, 94, 46, 61, 35] : List UInt8)) : countZ s kd = (cnL c l : Int) := by
  have k : ∃ l c, textOk s l ∧ kd = [c] ∧ c ∈ ([88, 63, 40, 123, 94, 46, 61, 35] : List UInt8) := ⟨l, c, h, hk, hc⟩
  unfold countZ
  rw [dif_pos k]
  have h1 := k.choose_spec.choose_spec
  have e1 := textOk_uniq h1.1 h
  have e2 : k.choose_spec.choose = c := (List.cons.inj (h1.2.1.symm.trans hk)).1
  rw [e2, e1]
theorem countZ_no {s kd : List UInt8} (h : ∀ l c, textOk s l → kd = [c] → c ∈ ([88, 63, 40, 123, 94, 46, 61, 35] : List UInt8) → False) : countZ s kd = -1 :=
  dif_neg fun ⟨l, c, h1, h2, h3⟩ => h l c h1 h2 h3

theorem kinds_find (c : UInt8) : (c ∈ ([88, 63, 40, 123, 94, 46, 61, 35] : List UInt8) ∧ (Lib.indexByte [88, 63, 40, 123, 94, 46, 61, 35] c < 0) = False) ∨ (c ∉ ([88, 63, 40, 123, 94, 46, 61, 35] : List UInt8) ∧ (Lib.indexByte [88, 63, 40, 123, 94, 46, 61, 35] c < 0) = True) := by
  have h : ∀ n : Fin 256, (UInt8.ofNat n.1 ∈ ([88, 63, 40, 123, 94, 46, 61, 35] : List UInt8) ∧ ¬ (Lib.indexByte [88, 63, 40, 123, 94, 46, 61, 35] (UInt8.ofNat n.1) < 0)) ∨ (UInt8.ofNat n.1 ∉ ([88, 63, 40, 123, 94, 46, 61, 35] : List UInt8) ∧ Lib.indexByte [88, 63, 40, 123, 94, 46, 61, 35] (UInt8.ofNat n.1) < 0) := by decide +kernel
  have h1 := h ⟨c.toNat, c.toNat_lt⟩
  simp only [UInt8.ofNat_toNat] at h1
  rcases h1 with ⟨a, b⟩ | ⟨a, b⟩
  · exact .inl ⟨a, eq_false b⟩
  · exact .inr ⟨a, eq_true b⟩

end Go.Proofs.Ytgkamcnbpiipoaa
