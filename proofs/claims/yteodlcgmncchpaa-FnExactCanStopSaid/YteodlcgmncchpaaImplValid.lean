/-
  Contracts of impl's nextValid and GraphValid.
-/
import Derived.Test.YteodlcgmncchpaaSl
import Derived.Test.YteodlcgmncchpaaValid
import Derived.Test.YteodlcgmncchpaaShelf
namespace Go.Proofs.Yteodlcgmncchpaa
open Go.RowKit Go.Sort

theorem toU8 (c : UInt8) : ((c.toNat : Int)).toNat.toUInt8 = c := by
  simp

theorem idxByte_any (s : ByteArray) (c : UInt8) (w : World) :
    Calls Try.prog 93 #[.string s, .int .u8 c.toNat] w fun e w' => e = .returned (.int .i64 (Lib.indexByte s.data.toList c)) ∧ w = w' := by
  have := Try.strings_IndexByte s c.toNat w
  rw [toU8] at this
  exact this.mono fun e w' ⟨h1, h2⟩ => ⟨h1, h2.symm⟩

theorem containsOne_any (s : ByteArray) (c : UInt8) (w : World) :
    Calls Try.prog 69 #[.string s, .string ⟨#[c]⟩] w fun e w' => e = .returned (.bool (s.data.toList.contains c)) ∧ w = w' := by
  have := Try.strings_Contains_one s c w
  rw [contains_idx] at this
  exact this.mono fun e w' ⟨h1, h2⟩ => ⟨h1, h2.symm⟩

theorem below_drewN (w : World) (n : Nat) : Below w.heap.size w (w.drewN n) := ⟨rfl, rfl, rfl, Nat.le_refl _, fun _ _ => rfl⟩

set_option maxHeartbeats 800000 in
theorem nextValid_any (s nm : ByteArray) (w : World) (hs : s.size ≤ 4611686018427387904) :
    Calls Try.prog 70 #[.string s, .string nm] w fun e w' => e = .returned (.bool (nextB s nm)) ∧ Below w.heap.size w w' := by
  by_cases h1 : s.size ≤ 2
  · have g1 : decide (2 < (s.size : Int)) = false := by simp; omega
    by_cases hd : ∃ h2 : s.size = 2, s[0]'(by omega) = s[1]'(by omega)
    · have l0 : 0 < s.size := by obtain ⟨h2, _⟩ := hd; omega
      have l1 : 1 < s.size := by obtain ⟨h2, _⟩ := hd; omega
      have i1 : (1 : Int) < s.size := by omega
      have HN := Lib.hid (show nextB s nm = false from Bool.eq_false_iff.2 fun e => by obtain ⟨h2, h3⟩ := hd; exact (nextB_iff.1 e).2.2 h2 h3)
      have g2 : ((s.size : Int) == 2) = true := by simp; omega
      have g3 : (((s[0]'l0).toNat : Int) == ((s[1]'l1).toNat : Int)) = true := by obtain ⟨h2, h3⟩ := hd; rw [h3]; simp
      clear hd
      go_enter Try.func70, Try.ntmps70
      go_wp2
      go_quiet (fail)
      go_wp2
      go_ret
      exact ⟨ret_bool HN.out.symm, below_drewN _ _⟩
    · have HD : Hid (∀ h : s.size = 2, s[0]'(by omega) ≠ s[1]'(by omega)) := fun h e => hd ⟨h, e⟩
      have hsplit : (∃ h : s.size = 2, (((s[0]'(by omega)).toNat : Int) == ((s[1]'(by omega)).toNat : Int)) = false) ∨ ((s.size : Int) == 2) = false := by
        by_cases h2 : s.size = 2
        · exact .inl ⟨h2, byte_ne (HD.out h2)⟩
        · exact .inr (by simp; omega)
      clear hd
      rcases hsplit with ⟨h2, g3⟩ | g2
      · have l0 : 0 < s.size := by omega
        have l1 : 1 < s.size := by omega
        have i1 : (1 : Int) < s.size := by omega
        have g2 : ((s.size : Int) == 2) = true := by simp; omega
        have H2 := Lib.hid h2
        have g3' : (((s[0]'l0).toNat : Int) == ((s[1]'l1).toNat : Int)) = false := g3
        clear g3 h2
        go_enter Try.func70, Try.ntmps70
        go_wp2
        go_quiet (fail)
        go_wp2
        go_loop [23] (fun i => ∃ k : Nat, k ≤ s.size ∧ i = .int .i64 k ∧ Hid (∀ j (h : j < s.size), j < k → 0 ≤ Lib.indexByte nm.data.toList (s[j]'h))) (fun i => s.size - (intOf i).toNat)
        case atStart => exact ⟨0, Nat.zero_le _, rfl, fun j _ h => absurd h (by omega)⟩
        case round =>
          obtain ⟨k, hk, rfl, HK⟩ := hrel
          by_cases hlt : k < s.size
          · by_cases hc : Lib.indexByte nm.data.toList (s[k]'hlt) < 0
            · have HN := Lib.hid (show nextB s nm = false from Bool.eq_false_iff.2 fun e => by have := (nextB_iff.1 e).2.1 k hlt; omega)
              go_wp2_with (go_at_call 93; refine (idxByte_any _ _ _).mono ?_; rintro e w' ⟨rfl, rfl⟩)
              go_ret
              exact ⟨ret_bool HN.out.symm, below_drewN _ _⟩
            · go_wp2_with (go_at_call 93; refine (idxByte_any _ _ _).mono ?_; rintro e w' ⟨rfl, rfl⟩)
              go_round
              case rel =>
                refine ⟨k + 1, by omega, by go_num, fun j h hj => ?_⟩
                rcases Nat.lt_succ_iff_lt_or_eq.1 hj with hj | rfl
                · exact HK.out j h hj
                · omega
              case measure => simp [intOf]; omega
          · have HN := Lib.hid (show nextB s nm = true from nextB_iff.2 ⟨h1, fun j h => HK.out j h (by omega), HD.out⟩)
            go_wp2_with fail
            go_ret
            exact ⟨ret_bool HN.out.symm, below_drewN _ _⟩
      · go_enter Try.func70, Try.ntmps70
        go_wp2
        go_quiet (fail)
        go_wp2
        go_loop [23] (fun i => ∃ k : Nat, k ≤ s.size ∧ i = .int .i64 k ∧ Hid (∀ j (h : j < s.size), j < k → 0 ≤ Lib.indexByte nm.data.toList (s[j]'h))) (fun i => s.size - (intOf i).toNat)
        case atStart => exact ⟨0, Nat.zero_le _, rfl, fun j _ h => absurd h (by omega)⟩
        case round =>
          obtain ⟨k, hk, rfl, HK⟩ := hrel
          by_cases hlt : k < s.size
          · by_cases hc : Lib.indexByte nm.data.toList (s[k]'hlt) < 0
            · have HN := Lib.hid (show nextB s nm = false from Bool.eq_false_iff.2 fun e => by have := (nextB_iff.1 e).2.1 k hlt; omega)
              go_wp2_with (go_at_call 93; refine (idxByte_any _ _ _).mono ?_; rintro e w' ⟨rfl, rfl⟩)
              go_ret
              exact ⟨ret_bool HN.out.symm, below_drewN _ _⟩
            · go_wp2_with (go_at_call 93; refine (idxByte_any _ _ _).mono ?_; rintro e w' ⟨rfl, rfl⟩)
              go_round
              case rel =>
                refine ⟨k + 1, by omega, by go_num, fun j h hj => ?_⟩
                rcases Nat.lt_succ_iff_lt_or_eq.1 hj with hj | rfl
                · exact HK.out j h hj
                · omega
              case measure => simp [intOf]; omega
          · have HN := Lib.hid (show nextB s nm = true from nextB_iff.2 ⟨h1, fun j h => HK.out j h (by omega), HD.out⟩)
            go_wp2_with fail
            go_ret
            exact ⟨ret_bool HN.out.symm, below_drewN _ _⟩
  · have HN := Lib.hid (show nextB s nm = false from Bool.eq_false_iff.2 fun e => h1 (nextB_iff.1 e).1)
    have g1 : decide (2 < (s.size : Int)) = true := by simp; omega
    go_enter Try.func70, Try.ntmps70
    go_wp2
    go_quiet (fail)
    go_wp2
    go_ret
    exact ⟨ret_bool HN.out.symm, below_drewN _ _⟩

set_option maxHeartbeats 800000 in
theorem implValid_any (A : Option Addr) (cap : Nat) (g : List Bl) (w : World) (hg : Gr w A g) (hn : g.length + tot g ≤ 1048576) :
    Calls Try.prog 35 #[.slice A g.length cap] w fun e w' => e = .returned (.bool (validB g)) ∧ Below w.heap.size w w' := by
  by_cases h0 : g.length = 0
  · have HN := Lib.hid (show validB g = false from valid_no fun e => by have := e.1; omega)
    have g0 : ((g.length : Int) == 0) = true := by rw [h0]; rfl
    clear h0
    go_enter Try.func35, Try.ntmps35
    go_wp2_with fail
    go_ret
    exact ⟨ret_bool HN.out.symm, Below.refl _ _⟩
  · have g0 : ((g.length : Int) == 0) = false := by simpa using h0
    have h1 : 1 ≤ g.length := by omega
    clear h0
    by_cases h26 : g.length ≤ 26
    · go_enter Try.func35, Try.ntmps35
      go_wp2_with fail
      go_loopw [3, 18] (fun s i wr => ∃ k : Nat, k ≤ g.length ∧ i = .int .i64 k ∧ s = .string (names (g.take k)) ∧ Hid (∀ j (h : j < g.length), j < k → newB (names (g.take j)) g[j].1 = true) ∧ Below w.heap.size w wr) (fun _ i _ => g.length - (intOf i).toNat)
      case atStart => exact ⟨0, Nat.zero_le _, rfl, rfl, fun j _ h => absurd h (by omega), Below.refl _ _⟩
      case round =>
        obtain ⟨k, hk, rfl, rfl, HK, hB⟩ := hrel
        have hs := names_size_le (g.take k)
        have hs2 := tot_take_le g k
        obtain ⟨m, hm⟩ : ∃ m, m = names (g.take k) := ⟨_, rfl⟩
        have HM := Lib.hid hm
        rw [← hm] at hs ⊢
        clear hm
        by_cases hlt : k < g.length
        · obtain ⟨b, off, s, t, rfl, hb, hc0, hc1, he, he2⟩ := gr_at (hg.below hB) hlt
          have hs3 := tot_get g k hlt
          rw [he, he2] at hs3
          have HNT := Lib.hid (names_take g k hlt)
          have HE := Lib.hid he
          clear he he2
          by_cases hnm : nameB s = true
          · obtain ⟨c, hsc, hlet⟩ := one_of_name hnm
            have HSC := Lib.hid hsc
            have hs4 : s.size = 1 := by rw [hsc]; rfl
            have HL := Lib.hid hlet
            have HNB := Lib.hid (newB_one (pre := m) hlet)
            clear hsc hlet
            by_cases hin : m.data.toList.contains c = true
            · have HN := Lib.hid (show validB g = false from valid_no_new hlt (by rw [← HM.out, HE.out, HSC.out, HNB.out, hin]; rfl))
              have HC : Hid (∀ w, Calls Try.prog 69 #[.string m, .string s] w fun e w' => e = .returned (.bool true) ∧ w = w') := fun w => by rw [HSC.out]; have := containsOne_any m c w; rwa [hin] at this
              clear hin
              go_wp2_with (first
                | (go_at_call 68; refine (isName_any _ _).mono ?_; rintro e w' ⟨rfl, rfl⟩)
                | (go_at_call 69; refine (HC.out _).mono ?_; rintro e w' ⟨rfl, rfl⟩))
              go_ret
              exact ⟨ret_bool HN.out.symm, hB.alloc hB.size _⟩
            · have hin' : m.data.toList.contains c = false := by simpa using hin
              have HNW := Lib.hid (show newB (names (g.take k)) g[k].1 = true by rw [← HM.out, HE.out, HSC.out, HNB.out, hin']; rfl)
              have HC : Hid (∀ w, Calls Try.prog 69 #[.string m, .string s] w fun e w' => e = .returned (.bool false) ∧ w = w') := fun w => by rw [HSC.out]; have := containsOne_any m c w; rwa [hin'] at this
              clear hin hin'
              go_wp2_with (first
                | (go_at_call 68; refine (isName_any _ _).mono ?_; rintro e w' ⟨rfl, rfl⟩)
                | (go_at_call 69; refine (HC.out _).mono ?_; rintro e w' ⟨rfl, rfl⟩))
              go_roundw
              case rel =>
                refine ⟨k + 1, by omega, by go_num, by rw [HNT.out, HE.out, ← HM.out], fun j h hj => ?_, hB.alloc hB.size _⟩
                rcases Nat.lt_succ_iff_lt_or_eq.1 hj with hj | rfl
                · exact HK.out j h hj
                · exact HNW.out
              case measure => simp [intOf]; omega
          · have hnm' : nameB s = false := by simpa using hnm
            have HN := Lib.hid (show validB g = false from valid_no_new hlt (by rw [HE.out]; unfold newB; rw [hnm']; rfl))
            clear hnm
            go_wp2_with (first
              | (go_at_call 68; refine (isName_any _ _).mono ?_; rintro e w' ⟨rfl, rfl⟩))
            go_ret
            exact ⟨ret_bool HN.out.symm, hB.alloc hB.size _⟩
        · have HNews := Lib.hid (show newsB g = true from newsB_iff.2 fun j h => HK.out j h (by omega))
          have HM2 := Lib.hid (show m = names g by rw [HM.out, List.take_of_length_le (by omega)])
          go_wp2_with fail
          obtain ⟨wo, hwo⟩ : ∃ wo : World, wo = wr := ⟨_, rfl⟩
          rw [← hwo] at hB ⊢
          clear hwo hs hs2
          go_loopw [39] (fun i wr => ∃ k : Nat, k ≤ g.length ∧ i = .int .i64 k ∧ Hid (∀ j (h : j < g.length), j < k → nextB g[j].2 m = true) ∧ Below w.heap.size w wr) (fun i _ => g.length - (intOf i).toNat)
          case atStart => exact ⟨0, Nat.zero_le _, rfl, fun j _ h => absurd h (by omega), hB⟩
          case round =>
            obtain ⟨k, hk, rfl, HK2, hB2⟩ := hrel
            by_cases hlt : k < g.length
            · obtain ⟨b, off, s, t, rfl, hb, hc0, hc1, he, he2⟩ := gr_at (hg.below hB2) hlt
              have hs3 := tot_get g k hlt
              rw [he, he2] at hs3
              have HE := Lib.hid he2
              clear he he2
              by_cases hnx : nextB t m = true
              · have HNX := Lib.hid hnx
                have HC : Hid (∀ w, Calls Try.prog 70 #[.string t, .string m] w fun e w' => e = .returned (.bool true) ∧ Below w.heap.size w w') := fun w => by have := nextValid_any t m w (by omega); rwa [hnx] at this
                clear hnx
                go_wp2_with (go_at_call 70; refine (HC.out _).mono ?_; rintro e w1 ⟨rfl, hb1⟩)
                go_roundw
                case rel =>
                  refine ⟨k + 1, by omega, by go_num, fun j h hj => ?_, below_trans_self (hB2.alloc hB2.size _) hb1⟩
                  rcases Nat.lt_succ_iff_lt_or_eq.1 hj with hj | rfl
                  · exact HK2.out j h hj
                  · rw [HE.out]; exact HNX.out
                case measure => simp [intOf]; omega
              · have hnx' : nextB t m = false := by simpa using hnx
                have HN := Lib.hid (show validB g = false from valid_no_next hlt (by rw [HE.out, ← HM2.out]; exact hnx'))
                have HC : Hid (∀ w, Calls Try.prog 70 #[.string t, .string m] w fun e w' => e = .returned (.bool false) ∧ Below w.heap.size w w') := fun w => by have := nextValid_any t m w (by omega); rwa [hnx'] at this
                clear hnx hnx'
                go_wp2_with (go_at_call 70; refine (HC.out _).mono ?_; rintro e w1 ⟨rfl, hb1⟩)
                go_ret
                exact ⟨ret_bool HN.out.symm, below_trans_self (hB2.alloc hB2.size _) hb1⟩
            · have HN := Lib.hid (show validB g = true from valid_iff.2 ⟨h1, h26, HNews.out, nextsB_iff.2 fun j h => by rw [← HM2.out]; exact HK2.out j h (by omega)⟩)
              go_wp2_with fail
              go_ret
              exact ⟨ret_bool HN.out.symm, hB2⟩
    · have HN := Lib.hid (show validB g = false from valid_no fun e => h26 e.2.1)
      go_enter Try.func35, Try.ntmps35
      go_wp2_with fail
      go_ret
      exact ⟨ret_bool HN.out.symm, Below.refl _ _⟩
end Go.Proofs.Yteodlcgmncchpaa
