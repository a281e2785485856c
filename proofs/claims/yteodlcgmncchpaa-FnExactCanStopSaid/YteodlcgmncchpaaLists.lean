/-
  Plain facts on lists of bytes: where a byte stands first, what is joined of names.
-/
import Derived.Lib.Bytealg
namespace Go.Proofs.Yteodlcgmncchpaa

theorem idx_found {l : List UInt8} {c : UInt8} : ∀ {k : Nat}, (∀ j, j < k → l[j]? ≠ some c) → l[k]? = some c → Lib.indexByte l c = k := by
  induction l with
  | nil => intro k _ h; simp at h
  | cons b l ih =>
    intro k hk h
    cases k with
    | zero =>
      have : b = c := by simpa using h
      subst this
      simp [Lib.indexByte]
    | succ k =>
      have hb : b ≠ c := fun e => hk 0 (by omega) (by simp [e])
      have h1 : l[k]? = some c := by simpa using h
      have h2 := ih (k := k) (fun j hj => by simpa using hk (j + 1) (by omega)) h1
      have h3 : (b == c) = false := by simpa using hb
      rw [Lib.indexByte, h3, h2]
      simp

theorem idx_none {l : List UInt8} {c : UInt8} (h : ∀ j, j < l.length → l[j]? ≠ some c) : Lib.indexByte l c = -1 := by
  induction l with
  | nil => rfl
  | cons b l ih =>
    have hb : b ≠ c := fun e => h 0 (by simp) (by simp [e])
    have h3 : (b == c) = false := by simpa using hb
    have h2 := ih (fun j hj => by simpa using h (j + 1) (by simpa using hj))
    rw [Lib.indexByte, h3, h2]
    rfl

theorem idx_mem {l : List UInt8} {c : UInt8} : 0 ≤ Lib.indexByte l c ↔ c ∈ l := by
  induction l with
  | nil => simp [Lib.indexByte]
  | cons b l ih =>
    by_cases hb : b = c
    · subst hb; simp [Lib.indexByte]
    · have h3 : (b == c) = false := by simpa using hb
      have hm := Lib.indexByte_ge l c
      rw [Lib.indexByte, h3]
      simp only [Bool.false_eq_true, if_false, List.mem_cons]
      by_cases h1 : Lib.indexByte l c = -1
      · rw [h1] at ih
        simp [h1, Ne.symm hb]
        have : ¬ c ∈ l := fun h => by have := ih.2 h; omega
        exact this
      · have h2 : (Lib.indexByte l c == -1) = false := by simpa using h1
        simp only [h2, Bool.false_eq_true, if_false, Ne.symm hb, false_or]
        rw [← ih]; omega

theorem idx_neg {l : List UInt8} {c : UInt8} : Lib.indexByte l c < 0 ↔ c ∉ l := by
  rw [← idx_mem]; omega

end Go.Proofs.Yteodlcgmncchpaa
