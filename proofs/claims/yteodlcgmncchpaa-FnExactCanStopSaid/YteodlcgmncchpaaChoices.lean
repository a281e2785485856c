/-
  Contracts of ChoicesValid, the program's and the model's.
-/
import Derived.Test.YteodlcgmncchpaaLeaf
import Derived.Test.YteodlcgmncchpaaGr
import Derived.Lib.ConvBytes
namespace Go.Proofs.Yteodlcgmncchpaa
open Go.RowKit Go.Sort

/-- Only l and r. -/
def isLR (s : List UInt8) : Bool := s.all fun c => c == 108 || c == 114

def choicesB (s : ByteArray) : Bool := decide (s.size ≤ 20) && isLR s.data.toList

theorem choices_no {s : ByteArray} (h : 20 < s.size) : choicesB s = false := by
  unfold choicesB; rw [decide_eq_false (by omega)]; rfl

theorem choices_bad {s : ByteArray} {k : Nat} (hk : k < s.size) (h1 : s[k] ≠ 108) (h2 : s[k] ≠ 114) : choicesB s = false := by
  unfold choicesB isLR
  have hm : s[k] ∈ s.data.toList := List.mem_of_getElem? (byte_at s k hk)
  have : s.data.toList.all (fun c => c == 108 || c == 114) = false := by
    rw [List.all_eq_false]
    exact ⟨_, hm, by simp [h1, h2]⟩
  rw [this, Bool.and_false]

theorem choices_good {s : ByteArray} (h : ∀ k (hk : k < s.size), s[k] = 108 ∨ s[k] = 114) : isLR s.data.toList = true := by
  unfold isLR
  rw [List.all_eq_true]
  intro c hc
  obtain ⟨k, hk, e⟩ := List.getElem_of_mem hc
  have hk' : k < s.size := by simpa using hk
  have h1 := byte_at s k hk'
  rw [List.getElem?_eq_getElem hk, e] at h1
  have h2 := h k hk'
  rw [← Option.some.inj h1] at h2
  simpa using h2

theorem byte_bne {a b : UInt8} {n : Int} (h : a ≠ b) (hn : (b.toNat : Int) = n) : ((a.toNat : Int) != n) = true := by
  subst hn; simp only [bne, byte_ne h, Bool.not_false]

theorem specChoices_any (s : ByteArray) (w : World) (hs : s.size ≤ 4611686018427387904) :
    Calls Try.prog 96 #[.string s] w fun e w' => e = .returned (.bool (choicesB s)) ∧ Below w.heap.size w w' := by
  go_enter Try.func96, Try.ntmps96
  go_wp2_with fail
  go_loopw [6] (fun i wr => ∃ k : Nat, k ≤ s.size ∧ i = .int .i64 k ∧ Hid (∀ j (h : j < s.size), j < k → s[j] = 108 ∨ s[j] = 114) ∧ Below w.heap.size w wr) (fun i _ => s.size - (intOf i).toNat)
  case atStart => exact ⟨0, Nat.zero_le _, rfl, fun j _ h => absurd h (by omega), Below.refl _ _⟩
  case round =>
    obtain ⟨k, hk, rfl, HK, hB⟩ := hrel
    by_cases hlt : k < s.size
    · by_cases h1 : s[k] = 108
      · have HG := Lib.hid (show s[k] = 108 ∨ s[k] = 114 from .inl h1)
        go_wp2_with fail
        go_roundw
        case rel =>
          refine ⟨k + 1, by omega, by go_num, fun j h hj => ?_, hB⟩
          rcases Nat.lt_succ_iff_lt_or_eq.1 hj with hj | rfl
          · exact HK.out j h hj
          · exact HG.out
        case measure => simp [intOf]; omega
      · by_cases h2 : s[k] = 114
        · have HG := Lib.hid (show s[k] = 108 ∨ s[k] = 114 from .inr h2)
          go_wp2_with fail
          go_roundw
          case rel =>
            refine ⟨k + 1, by omega, by go_num, fun j h hj => ?_, hB⟩
            rcases Nat.lt_succ_iff_lt_or_eq.1 hj with hj | rfl
            · exact HK.out j h hj
            · exact HG.out
          case measure => simp [intOf]; omega
        · have HF := Lib.hid (choices_bad hlt h1 h2)
          have q1 : ((s[k].toNat : Int) != 108) = true := byte_bne h1 rfl
          have q2 : ((s[k].toNat : Int) != 114) = true := byte_bne h2 rfl
          clear h1 h2
          go_wp2_with fail
          go_ret
          exact ⟨ret_bool HF.out.symm, hB⟩
    · have HG := Lib.hid (choices_good (s := s) fun j h => HK.out j h (by omega))
      go_wp2_with fail
      go_ret
      refine ⟨ret_bool ?_, hB⟩
      unfold choicesB
      rw [HG.out, Bool.and_true]
      first | rfl | (apply decide_eq_decide.2; omega) | simp

theorem bytes_below (w : World) (e : TypeId) (s : ByteArray) : Below w.heap.size w (Lib.bytesWorld w e s) :=
  ⟨rfl, rfl, rfl, by rw [Lib.bytesWorld_size]; omega, fun k hk => Lib.bytesWorld_at_old w e s k hk⟩

set_option maxRecDepth 100000 in
theorem implChoices_any (s : ByteArray) (w : World) (hs : s.size ≤ 4611686018427387904) :
    Calls Try.prog 42 #[.string s] w fun e w' => e = .returned (.bool (choicesB s)) ∧ Below w.heap.size w w' := by
  by_cases h20 : 20 < s.size
  · have HF := Lib.hid (choices_no h20)
    go_enter Try.func42, Try.ntmps42
    go_wp2_with fail
    go_ret
    exact ⟨ret_bool HF.out.symm, Below.refl _ _⟩
  have hc := fun (W : World) => Lib.run_convert_string_bytes (P := Try.prog) W 9 35 5 s Try.underlying9 Try.underlying35 Try.underlying5
  go_enter Try.func42, Try.ntmps42
  go_wp2_with fail
  clear hc
  have hb := bytes_below w 5 s
  have hcell := fun j hj => Lib.bytesWorld_cell w 5 s j hj
  generalize Lib.bytesWorld w 5 s = W1 at *
  generalize grownCap w s.size 0 5 = cap
  go_loop [11] (fun i => ∃ k : Nat, k ≤ s.size ∧ i = .int .i64 k ∧ Hid (∀ j (h : j < s.size), j < k → s[j] = 108 ∨ s[j] = 114)) (fun i => s.size - (intOf i).toNat)
  case atStart => exact ⟨0, Nat.zero_le _, rfl, fun j _ h => absurd h (by omega)⟩
  case round =>
    obtain ⟨k, hk, rfl, HK⟩ := hrel
    by_cases hlt : k < s.size
    · have c0 := hcell k hlt
      have e0 : s.data.toList.getD k 0 = s[k] := by rw [List.getD_eq_getElem?_getD, byte_at s k hlt]; rfl
      rw [e0] at c0
      obtain ⟨c, hc⟩ : ∃ c, c = s[k] := ⟨_, rfl⟩
      rw [← hc] at c0
      have HCC := Lib.hid hc
      clear e0 hc hcell
      by_cases h1 : c = 108
      · have HG := Lib.hid (show s[k] = 108 ∨ s[k] = 114 from .inl (HCC.out.symm.trans h1))
        have q1 : (c.toNat : Int) = 108 := by rw [h1]; rfl
        clear h1
        go_wp2_with fail
        go_roundw
        case rel =>
          refine ⟨k + 1, by omega, by go_num, fun j h hj => ?_⟩
          rcases Nat.lt_succ_iff_lt_or_eq.1 hj with hj | rfl
          · exact HK.out j h hj
          · exact HG.out
        case measure => simp [intOf]; omega
      · by_cases h2 : c = 114
        · have HG := Lib.hid (show s[k] = 108 ∨ s[k] = 114 from .inr (HCC.out.symm.trans h2))
          have q1 : (c.toNat : Int) = 114 := by rw [h2]; rfl
          clear h1 h2
          go_wp2_with fail
          go_roundw
          case rel =>
            refine ⟨k + 1, by omega, by go_num, fun j h hj => ?_⟩
            rcases Nat.lt_succ_iff_lt_or_eq.1 hj with hj | rfl
            · exact HK.out j h hj
            · exact HG.out
          case measure => simp [intOf]; omega
        · have HF := Lib.hid (choices_bad hlt (fun e => h1 (HCC.out.trans e)) (fun e => h2 (HCC.out.trans e)))
          have q1 : ((c.toNat : Int) != 108) = true := byte_bne h1 rfl
          have q2 : ((c.toNat : Int) != 114) = true := byte_bne h2 rfl
          clear h1 h2
          go_wp2_with fail
          go_ret
          exact ⟨ret_bool HF.out.symm, hb⟩
    · have HG := Lib.hid (choices_good (s := s) fun j h => HK.out j h (by omega))
      go_wp2_with fail
      go_ret
      refine ⟨ret_bool ?_, hb⟩
      unfold choicesB
      rw [HG.out, Bool.and_true]
      simp; omega

end Go.Proofs.Yteodlcgmncchpaa
