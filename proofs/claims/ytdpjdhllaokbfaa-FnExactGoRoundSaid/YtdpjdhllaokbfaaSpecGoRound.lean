/-
  The model's GoRound.
-/
import Derived.Test.YtdpjdhllaokbfaaSpecParts
namespace Go.Proofs.Ytdpjdhllaokbfaa
open Go.RowKit Go.Sort

theorem goRound_dead {g : List Bl} {a b : ByteArray} (h : partV g a = []) : goRoundB g a b = false := by
  have h1 := (outerV_text g a).2.1
  rw [h] at h1
  unfold goRoundB
  cases ho : outerV g a with
  | none => rfl
  | some r => rw [ho] at h1; cases h1
theorem goRound_live {g : List Bl} {a b : ByteArray} (h : partV g a ≠ []) : goRoundB g a b = (named g (partV g a) b).isSome := by
  unfold goRoundB
  cases hl : liveOf g a with
  | none => exact absurd (partV_dead hl) h
  | some i =>
    rw [partV_live hl] at h ⊢
    rw [outerV_live hl, if_neg h]
    rfl
theorem goRound_size {g : List Bl} (hv : validB g = true) {P : List Nat} (hP : ∀ x ∈ P, x < g.length) {b : ByteArray} (h : b.size ≠ 1) : (named g P b).isSome = false := by
  cases hn : named g P b with
  | none => rfl
  | some i =>
    obtain ⟨h1, h2⟩ := named_is hn
    exact absurd (by rw [← h2]; exact nth_size hv (hP i h1)) h
theorem goRound_one {g : List Bl} (hv : validB g = true) {P : List Nat} (hP : ∀ x ∈ P, x < g.length) {c : UInt8} : (named g P ⟨#[c]⟩).isSome = decide (0 ≤ Lib.indexByte (namesAt g P).data.toList c) := by
  cases hp : posOf g ⟨#[c]⟩ with
  | none =>
    rw [decide_eq_false (idx_namesAt_no hv hP hp)]
    cases hn : named g P ⟨#[c]⟩ with
    | none => rfl
    | some i =>
      obtain ⟨h1, h2⟩ := named_is hn
      have hil := hP i h1
      rw [nthName_at hil] at h2
      have := posOf_name hv hil
      rw [h2, hp] at this; cases this
  | some i =>
    obtain ⟨hi, hnm⟩ := posOf_is hp
    have := idx_namesAt hv hP hi hnm
    rw [Bool.eq_iff_iff, decide_eq_true_eq, this]
    constructor
    · intro h
      obtain ⟨k, hk⟩ := Option.isSome_iff_exists.1 h
      obtain ⟨h1, h2⟩ := named_is hk
      have hkl := hP k h1
      rw [nthName_at hkl, ← hnm] at h2
      have e := name_inj hv hkl hi h2
      subst e; exact h1
    · intro h
      unfold named
      rw [List.find?_isSome]
      exact ⟨i, h, by rw [nthName_at hi, hnm]; simp⟩
set_option maxRecDepth 100000 in
theorem specGoRound_any (A : Option Addr) (cap : Nat) (g : List Bl) (s t : ByteArray) (w : World) (hg : Gr w A g) (hn : g.length + tot g ≤ 1048576) (hcap : g.length ≤ cap) :
    Calls Try.prog 5 #[.slice A g.length cap, .string s, .string t] w fun e w' => e = .returned (.bool (goRoundB g s t)) ∧ Below w.heap.size w w' := by
  have HP := Lib.hid (specPartOf_any A cap g s w hg hn hcap)
  clear hg
  obtain ⟨pt, hpt⟩ : ∃ pt, pt = namesAt g (partV g s) := ⟨_, rfl⟩
  obtain ⟨ok, hok⟩ : ∃ ok, ok = !(partV g s).isEmpty := ⟨_, rfl⟩
  rw [← hpt, ← hok] at HP
  cases ok with
  | false =>
    have HR := Lib.hid (show false = goRoundB g s t by
      rw [goRound_dead]
      cases hq : partV g s with
      | nil => rfl
      | cons x xs => rw [hq] at hok; cases hok)
    clear hok hpt
    go_enter Try.func5, Try.ntmps5
    go_wp2_with fail
    refine HP.out.mono ?_
    rintro e w1 ⟨rfl, b1⟩
    go_wp2_with fail
    go_ret
    exact ⟨ret_bool HR.out, b1⟩
  | true =>
    have hne : partV g s ≠ [] := fun h => by rw [h] at hok; cases hok
    have hv : validB g = true := by
      cases hl : liveOf g s with
      | none => exact absurd (partV_dead hl) hne
      | some i => exact (liveOf_is hl).1
    have hPl : ∀ x ∈ partV g s, x < g.length := fun x hx => (partV_lt x hx).1
    by_cases h1 : t.size = 1
    · have l0 : 0 < t.size := by omega
      have i0 : (0 : Int) < t.size := by omega
      have h1i : (t.size : Int) = 1 := by omega
      obtain ⟨c, hc⟩ : ∃ c, t = ⟨#[c]⟩ := by
        obtain ⟨⟨l⟩⟩ := t
        match l, h1 with
        | [c], _ => exact ⟨c, rfl⟩
      obtain ⟨z, hz⟩ : ∃ z, z = Lib.indexByte pt.data.toList c := ⟨_, rfl⟩
      have hpz : pt.size ≤ 26 := by rw [hpt, namesAt_size hv _ hPl]; exact partV_len hv s
      have HF : Hid (∀ w, Calls Try.prog 11 #[.string pt, .int .u8 (t[0]'l0).toNat] w fun e w' => e = .returned (.int .i64 z) ∧ w = w') := fun w => by
        rw [one_get' hc l0, hz]; exact find_any pt c w (by omega)
      have HR := Lib.hid (show decide (0 ≤ z) = goRoundB g s t by rw [goRound_live hne, hc, goRound_one hv hPl, hz, hpt])
      clear hc hz hpt hne hv hPl hok
      go_enter Try.func5, Try.ntmps5
      go_wp2_with fail
      refine HP.out.mono ?_
      rintro e w1 ⟨rfl, b1⟩
      have HB1 := Lib.hid b1
      clear b1
      go_wp2_with fail
      refine (HF.out _).mono ?_
      rintro e w2 ⟨rfl, rfl⟩
      go_wp2_with fail
      go_ret
      exact ⟨ret_bool HR.out, HB1.out⟩
    · have h1i : ¬ (t.size : Int) = 1 := by omega
      have HR := Lib.hid (show false = goRoundB g s t by rw [goRound_live hne, goRound_size hv hPl h1])
      clear hpt hne hv hPl hok
      go_enter Try.func5, Try.ntmps5
      go_wp2_with fail
      refine HP.out.mono ?_
      rintro e w1 ⟨rfl, b1⟩
      go_wp2_with fail
      go_ret
      exact ⟨ret_bool HR.out, b1⟩
end Go.Proofs.Ytdpjdhllaokbfaa
