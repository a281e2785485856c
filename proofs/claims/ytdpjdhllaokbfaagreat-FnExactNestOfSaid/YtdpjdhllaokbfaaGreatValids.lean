/-
  Contracts of impl's nextValid and GraphValid.
-/
import Derived.Test.YtdpjdhllaokbfaaGreatBase
import Derived.Test.YtdpjdhllaokbfaaGreatShelf
import Derived.Test.YtdpjdhllaokbfaaGreatRows
import Derived.ProofKit
import Derived.Deep.SlicePairs
namespace Go.Proofs.YtdpjdhllaokbfaaGreat
open Go.RowKit Go.Sort

theorem toU8 (c : UInt8) : ((c.toNat : Int)).toNat.toUInt8 = c := by
  simp

theorem idxByte_any (s : ByteArray) (c : UInt8) (w : World) :
    Calls Tryz.prog 109 #[.string s, .int .u8 c.toNat] w fun e w' => e = .returned (.int .i64 (Lib.indexByte s.data.toList c)) ∧ w = w' := by
  have := Tryz.strings_IndexByte s c.toNat w
  rw [toU8] at this
  exact this.mono fun e w' ⟨h1, h2⟩ => ⟨h1, h2.symm⟩

theorem containsOne_any (s : ByteArray) (c : UInt8) (w : World) :
    Calls Tryz.prog 97 #[.string s, .string ⟨#[c]⟩] w fun e w' => e = .returned (.bool (s.data.toList.contains c)) ∧ w = w' := by
  have := Tryz.strings_Contains_one s c w
  rw [contains_idx] at this
  exact this.mono fun e w' ⟨h1, h2⟩ => ⟨h1, h2.symm⟩

theorem below_drewN (w : World) (n : Nat) : Below w.heap.size w (w.drewN n) := ⟨rfl, rfl, rfl, Nat.le_refl _, fun _ _ => rfl⟩

set_option maxHeartbeats 800000 in
theorem nextValid_any (s nm : ByteArray) (w : World) (hs : s.size ≤ 4611686018427387904) :
    Calls Tryz.prog 98 #[.string s, .string nm] w fun e w' => e = .returned (.bool (nextB s nm)) ∧ Below w.heap.size w w' := by
  by_cases h1 : s.size ≤ 2
  · have g1 : decide (2 < (s.size : Int)) = false := by simp; omega
    by_cases hd : ∃ h2 : s.size = 2, s[0]'(by omega) = s[1]'(by omega)
    · have l0 : 0 < s.size := by obtain ⟨h2, _⟩ := hd; omega
      have l1 : 1 < s.size := by obtain ⟨h2, _⟩ := hd; omega
      have i1 : (1 : Int) < s.size := by omega
      have HN := Lib.hid (show nextB s nm = false from Bool.eq_false_iff.2 fun e => by obtain ⟨h2, h3⟩ := hd; exact (nextB_iff.1 e).2.2 h2 h3)
      have g2 : ((s.size : Int) == 2) = true := by simp; omega
      have g3 : (((s[0]'l0).toNat : Int) == ((s[1]'l1).toNat : Int)) = true := by obtain ⟨h2, h3⟩ := hd; rw [h3]; simp
      clear hd
      go_enter Tryz.func98, Tryz.ntmps98
      go_wp2
      go_quiet (fail)
      go_wp2
      go_ret
      exact ⟨ret_bool HN.out.symm, below_drewN _ _⟩
    · have HD : Hid (∀ h : s.size = 2, s[0]'(by omega) ≠ s[1]'(by omega)) := fun h e => hd ⟨h, e⟩
      have hsplit : (∃ h : s.size = 2, (((s[0]'(by omega)).toNat : Int) == ((s[1]'(by omega)).toNat : Int)) = false) ∨ ((s.size : Int) == 2) = false := by
        by_cases h2 : s.size = 2
        · exact .inl ⟨h2, byte_ne (HD.out h2)⟩
        · exact .inr (by simp; omega)
      clear hd
      rcases hsplit with ⟨h2, g3⟩ | g2
      · have l0 : 0 < s.size := by omega
        have l1 : 1 < s.size := by omega
        have i1 : (1 : Int) < s.size := by omega
        have g2 : ((s.size : Int) == 2) = true := by simp; omega
        have H2 := Lib.hid h2
        have g3' : (((s[0]'l0).toNat : Int) == ((s[1]'l1).toNat : Int)) = false := g3
        clear g3 h2
        go_enter Tryz.func98, Tryz.ntmps98
        go_wp2
        go_quiet (fail)
        go_wp2
        go_loop [23] (fun i => ∃ k : Nat, k ≤ s.size ∧ i = .int .i64 k ∧ Hid (∀ j (h : j < s.size), j < k → 0 ≤ Lib.indexByte nm.data.toList (s[j]'h))) (fun i => s.size - (intOf i).toNat)
        case atStart => exact ⟨0, Nat.zero_le _, rfl, fun j _ h => absurd h (by omega)⟩
        case round =>
          obtain ⟨k, hk, rfl, HK⟩ := hrel
          by_cases hlt : k < s.size
          · by_cases hc : Lib.indexByte nm.data.toList (s[k]'hlt) < 0
            · have HN := Lib.hid (show nextB s nm = false from Bool.eq_false_iff.2 fun e => by have := (nextB_iff.1 e).2.1 k hlt; omega)
              go_wp2_with (go_at_call 109; refine (idxByte_any _ _ _).mono ?_; rintro e w' ⟨rfl, rfl⟩)
              go_ret
              exact ⟨ret_bool HN.out.symm, below_drewN _ _⟩
            · go_wp2_with (go_at_call 109; refine (idxByte_any _ _ _).mono ?_; rintro e w' ⟨rfl, rfl⟩)
              go_round
              case rel =>
                refine ⟨k + 1, by omega, by go_num, fun j h hj => ?_⟩
                rcases Nat.lt_succ_iff_lt_or_eq.1 hj with hj | rfl
                · exact HK.out j h hj
                · omega
              case measure => simp [intOf]; omega
          · have HN := Lib.hid (show nextB s nm = true from nextB_iff.2 ⟨h1, fun j h => HK.out j h (by omega), HD.out⟩)
            go_wp2_with fail
            go_ret
            exact ⟨ret_bool HN.out.symm, below_drewN _ _⟩
      · go_enter Tryz.func98, Tryz.ntmps98
        go_wp2
        go_quiet (fail)
        go_wp2
        go_loop [23] (fun i => ∃ k : Nat, k ≤ s.size ∧ i = .int .i64 k ∧ Hid (∀ j (h : j < s.size), j < k → 0 ≤ Lib.indexByte nm.data.toList (s[j]'h))) (fun i => s.size - (intOf i).toNat)
        case atStart => exact ⟨0, Nat.zero_le _, rfl, fun j _ h => absurd h (by omega)⟩
        case round =>
          obtain ⟨k, hk, rfl, HK⟩ := hrel
          by_cases hlt : k < s.size
          · by_cases hc : Lib.indexByte nm.data.toList (s[k]'hlt) < 0
            · have HN := Lib.hid (show nextB s nm = false from Bool.eq_false_iff.2 fun e => by have := (nextB_iff.1 e).2.1 k hlt; omega)
              go_wp2_with (go_at_call 109; refine (idxByte_any _ _ _).mono ?_; rintro e w' ⟨rfl, rfl⟩)
              go_ret
              exact ⟨ret_bool HN.out.symm, below_drewN _ _⟩
            · go_wp2_with (go_at_call 109; refine (idxByte_any _ _ _).mono ?_; rintro e w' ⟨rfl, rfl⟩)
              go_round
              case rel =>
                refine ⟨k + 1, by omega, by go_num, fun j h hj => ?_⟩
                rcases Nat.lt_succ_iff_lt_or_eq.1 hj with hj | rfl
                · exact HK.out j h hj
                · omega
              case measure => simp [intOf]; omega
          · have HN := Lib.hid (show nextB s nm = true from nextB_iff.2 ⟨h1, fun j h => HK.out j h (by omega), HD.out⟩)
            go_wp2_with fail
            go_ret
            exact ⟨ret_bool HN.out.symm, below_drewN _ _⟩
  · have HN := Lib.hid (show nextB s nm = false from Bool.eq_false_iff.2 fun e => h1 (nextB_iff.1 e).1)
    have g1 : decide (2 < (s.size : Int)) = true := by simp; omega
    go_enter Tryz.func98, Tryz.ntmps98
    go_wp2
    go_quiet (fail)
    go_wp2
    go_ret
    exact ⟨ret_bool HN.out.symm, below_drewN _ _⟩

set_option maxHeartbeats 800000 in
theorem implValid_any (A : Option Addr) (cap : Nat) (g : List Bl) (w : World) (hg : Gr w A g) (hn : g.length + tot g ≤ 1048576) :
    Calls Tryz.prog 82 #[.slice A g.length cap] w fun e w' => e = .returned (.bool (validB g)) ∧ Below w.heap.size w w' := by
  by_cases h0 : g.length = 0
  · have HN := Lib.hid (show validB g = false from valid_no fun e => by have := e.1; omega)
    have g0 : ((g.length : Int) == 0) = true := by rw [h0]; rfl
    clear h0
    go_enter Tryz.func82, Tryz.ntmps82
    go_wp2_with fail
    go_ret
    exact ⟨ret_bool HN.out.symm, Below.refl _ _⟩
  · have g0 : ((g.length : Int) == 0) = false := by simpa using h0
    have h1 : 1 ≤ g.length := by omega
    clear h0
    by_cases h26 : g.length ≤ 26
    · go_enter Tryz.func82, Tryz.ntmps82
      go_wp2_with fail
      go_loopw [3, 18] (fun s i wr => ∃ k : Nat, k ≤ g.length ∧ i = .int .i64 k ∧ s = .string (names (g.take k)) ∧ Hid (∀ j (h : j < g.length), j < k → newB (names (g.take j)) g[j].1 = true) ∧ Below w.heap.size w wr) (fun _ i _ => g.length - (intOf i).toNat)
      case atStart => exact ⟨0, Nat.zero_le _, rfl, rfl, fun j _ h => absurd h (by omega), Below.refl _ _⟩
      case round =>
        obtain ⟨k, hk, rfl, rfl, HK, hB⟩ := hrel
        have hs := names_size_le (g.take k)
        have hs2 := tot_take_le g k
        obtain ⟨m, hm⟩ : ∃ m, m = names (g.take k) := ⟨_, rfl⟩
        have HM := Lib.hid hm
        rw [← hm] at hs ⊢
        clear hm
        by_cases hlt : k < g.length
        · obtain ⟨b, off, s, t, rfl, hb, hc0, hc1, he, he2⟩ := gr_at (hg.below hB) hlt
          have hs3 := tot_get g k hlt
          rw [he, he2] at hs3
          have HNT := Lib.hid (names_take g k hlt)
          have HE := Lib.hid he
          clear he he2
          by_cases hnm : nameB s = true
          · obtain ⟨c, hsc, hlet⟩ := one_of_name hnm
            have HSC := Lib.hid hsc
            have hs4 : s.size = 1 := by rw [hsc]; rfl
            have HL := Lib.hid hlet
            have HNB := Lib.hid (newB_one (pre := m) hlet)
            clear hsc hlet
            by_cases hin : m.data.toList.contains c = true
            · have HN := Lib.hid (show validB g = false from valid_no_new hlt (by rw [← HM.out, HE.out, HSC.out, HNB.out, hin]; rfl))
              have HC : Hid (∀ w, Calls Tryz.prog 97 #[.string m, .string s] w fun e w' => e = .returned (.bool true) ∧ w = w') := fun w => by rw [HSC.out]; have := containsOne_any m c w; rwa [hin] at this
              clear hin
              go_wp2_with (first
                | (go_at_call 96; refine (isName_any _ _).mono ?_; rintro e w' ⟨rfl, rfl⟩)
                | (go_at_call 97; refine (HC.out _).mono ?_; rintro e w' ⟨rfl, rfl⟩))
              go_ret
              exact ⟨ret_bool HN.out.symm, hB.alloc hB.size _⟩
            · have hin' : m.data.toList.contains c = false := by simpa using hin
              have HNW := Lib.hid (show newB (names (g.take k)) g[k].1 = true by rw [← HM.out, HE.out, HSC.out, HNB.out, hin']; rfl)
              have HC : Hid (∀ w, Calls Tryz.prog 97 #[.string m, .string s] w fun e w' => e = .returned (.bool false) ∧ w = w') := fun w => by rw [HSC.out]; have := containsOne_any m c w; rwa [hin'] at this
              clear hin hin'
              go_wp2_with (first
                | (go_at_call 96; refine (isName_any _ _).mono ?_; rintro e w' ⟨rfl, rfl⟩)
                | (go_at_call 97; refine (HC.out _).mono ?_; rintro e w' ⟨rfl, rfl⟩))
              go_roundw
              case rel =>
                refine ⟨k + 1, by omega, by go_num, by rw [HNT.out, HE.out, ← HM.out], fun j h hj => ?_, hB.alloc hB.size _⟩
                rcases Nat.lt_succ_iff_lt_or_eq.1 hj with hj | rfl
                · exact HK.out j h hj
                · exact HNW.out
              case measure => simp [intOf]; omega
          · have hnm' : nameB s = false := by simpa using hnm
            have HN := Lib.hid (show validB g = false from valid_no_new hlt (by rw [HE.out]; unfold newB; rw [hnm']; rfl))
            clear hnm
            go_wp2_with (first
              | (go_at_call 96; refine (isName_any _ _).mono ?_; rintro e w' ⟨rfl, rfl⟩))
            go_ret
            exact ⟨ret_bool HN.out.symm, hB.alloc hB.size _⟩
        · have HNews := Lib.hid (show newsB g = true from newsB_iff.2 fun j h => HK.out j h (by omega))
          have HM2 := Lib.hid (show m = names g by rw [HM.out, List.take_of_length_le (by omega)])
          go_wp2_with fail
          obtain ⟨wo, hwo⟩ : ∃ wo : World, wo = wr := ⟨_, rfl⟩
          rw [← hwo] at hB ⊢
          clear hwo hs hs2
          go_loopw [39] (fun i wr => ∃ k : Nat, k ≤ g.length ∧ i = .int .i64 k ∧ Hid (∀ j (h : j < g.length), j < k → nextB g[j].2 m = true) ∧ Below w.heap.size w wr) (fun i _ => g.length - (intOf i).toNat)
          case atStart => exact ⟨0, Nat.zero_le _, rfl, fun j _ h => absurd h (by omega), hB⟩
          case round =>
            obtain ⟨k, hk, rfl, HK2, hB2⟩ := hrel
            by_cases hlt : k < g.length
            · obtain ⟨b, off, s, t, rfl, hb, hc0, hc1, he, he2⟩ := gr_at (hg.below hB2) hlt
              have hs3 := tot_get g k hlt
              rw [he, he2] at hs3
              have HE := Lib.hid he2
              clear he he2
              by_cases hnx : nextB t m = true
              · have HNX := Lib.hid hnx
                have HC : Hid (∀ w, Calls Tryz.prog 98 #[.string t, .string m] w fun e w' => e = .returned (.bool true) ∧ Below w.heap.size w w') := fun w => by have := nextValid_any t m w (by omega); rwa [hnx] at this
                clear hnx
                go_wp2_with (go_at_call 98; refine (HC.out _).mono ?_; rintro e w1 ⟨rfl, hb1⟩)
                go_roundw
                case rel =>
                  refine ⟨k + 1, by omega, by go_num, fun j h hj => ?_, below_trans_self (hB2.alloc hB2.size _) hb1⟩
                  rcases Nat.lt_succ_iff_lt_or_eq.1 hj with hj | rfl
                  · exact HK2.out j h hj
                  · rw [HE.out]; exact HNX.out
                case measure => simp [intOf]; omega
              · have hnx' : nextB t m = false := by simpa using hnx
                have HN := Lib.hid (show validB g = false from valid_no_next hlt (by rw [HE.out, ← HM2.out]; exact hnx'))
                have HC : Hid (∀ w, Calls Tryz.prog 98 #[.string t, .string m] w fun e w' => e = .returned (.bool false) ∧ Below w.heap.size w w') := fun w => by have := nextValid_any t m w (by omega); rwa [hnx'] at this
                clear hnx hnx'
                go_wp2_with (go_at_call 98; refine (HC.out _).mono ?_; rintro e w1 ⟨rfl, hb1⟩)
                go_ret
                exact ⟨ret_bool HN.out.symm, below_trans_self (hB2.alloc hB2.size _) hb1⟩
            · have HN := Lib.hid (show validB g = true from valid_iff.2 ⟨h1, h26, HNews.out, nextsB_iff.2 fun j h => by rw [← HM2.out]; exact HK2.out j h (by omega)⟩)
              go_wp2_with fail
              go_ret
              exact ⟨ret_bool HN.out.symm, hB2⟩
    · have HN := Lib.hid (show validB g = false from valid_no fun e => h26 e.2.1)
      go_enter Tryz.func82, Tryz.ntmps82
      go_wp2_with fail
      go_ret
      exact ⟨ret_bool HN.out.symm, Below.refl _ _⟩
end Go.Proofs.YtdpjdhllaokbfaaGreat

/-
  Contract of spec's GraphValid.
-/
namespace Go.Proofs.YtdpjdhllaokbfaaGreat
open Go.RowKit Go.Sort

/-- A contract that leaves the world alone, in the class of worlds that have grown. -/
theorem same_grown {f : FuncId} {args : Array Value} {w : World} {d : Nat} {os : Array Obj} {v : Value}
    (h : Calls Tryz.prog f args (grow (redrawn w d) os) fun e w' => e = .returned v ∧ grow (redrawn w d) os = w') : Calls Tryz.prog f args (grow (redrawn w d) os) fun e w'' => e = .returned v ∧ ∃ p : Regrown, w'' = grow (redrawn w p.d) p.os :=
  Calls.regrown_of (h.mono fun _ _ ⟨he, hw⟩ => ⟨he, hw ▸ Below.refl _ _⟩)

theorem gr_grown {w : World} {A : Option Addr} {g : List Bl} (h : Gr w A g) (d : Nat) (os : Array Obj) : Gr (grow (redrawn w d) os) A g :=
  h.below (below_regrown w d os)

/-- What the model's round asks of a block. -/
def roundB (pre nm : ByteArray) (s t : ByteArray) : Bool := newB pre s && nextB t nm

theorem valid_rounds {g : List Bl} : (newsB g = true ∧ nextsB g = true) ↔ ∀ k (h : k < g.length), roundB (names (g.take k)) (names g) g[k].1 g[k].2 = true := by
  rw [newsB_iff, nextsB_iff]
  unfold roundB
  simp only [Bool.and_eq_true]
  exact ⟨fun h k hk => ⟨h.1 k hk, h.2 k hk⟩, fun h => ⟨fun k hk => (h k hk).1, fun k hk => (h k hk).2⟩⟩

theorem valid_no_round {g : List Bl} {k : Nat} (hk : k < g.length) (h : roundB (names (g.take k)) (names g) g[k].1 g[k].2 = false) : validB g = false :=
  valid_no fun e => by have := valid_rounds.1 ⟨e.2.2.1, e.2.2.2⟩ k hk; rw [h] at this; cases this

theorem name_size {s : ByteArray} (h : ¬ s.size = 1) : nameB s = false := by unfold nameB; simp [h]

theorem len_take' (g : List Bl) (k : Nat) (h : k ≤ g.length) : (g.take k).length = k := by simp; omega

set_option maxHeartbeats 1600000 in
theorem specValid_any (A : Option Addr) (cap : Nat) (g : List Bl) (w : World) (hg : Gr w A g) (hn : g.length + tot g ≤ 1048576) (hcap : g.length ≤ cap) :
    Calls Tryz.prog 35 #[.slice A g.length cap] w fun e w' => e = .returned (.bool (validB g)) ∧ Below w.heap.size w w' := by
  go_enter Tryz.func35, Tryz.ntmps35
  go_wp2_with (go_at_call 58; refine (names_any A cap g _ hg (by omega) (by omega)).mono ?_; rintro e w0 ⟨rfl, hB0⟩)
  have hs := names_size_le g
  obtain ⟨m, hm⟩ : ∃ m, m = names g := ⟨_, rfl⟩
  have HM := Lib.hid hm
  rw [← hm] at hs ⊢
  clear hm
  go_loopw [11] (fun i wr => ∃ k : Nat, k ≤ g.length ∧ i = .int .i64 k ∧ Hid (∀ j (h : j < g.length), j < k → roundB (names (g.take j)) m g[j].1 g[j].2 = true) ∧ Below w.heap.size w wr) (fun i _ => g.length - (intOf i).toNat)
  case atStart => exact ⟨0, Nat.zero_le _, rfl, fun j _ h => absurd h (by omega), hB0⟩
  case round =>
    obtain ⟨k, hk, rfl, HK, hB⟩ := hrel
    by_cases hlt : k < g.length
    · have hgr := hg.below hB
      obtain ⟨b, off, s, t, rfl, hb, hc0, hc1, he, he2⟩ := gr_at hgr hlt
      have hs3 := tot_get g k hlt
      rw [he, he2] at hs3
      have HE := Lib.hid he
      have HE2 := Lib.hid he2
      clear he he2
      have HGR := Lib.hid hgr
      clear hgr
      by_cases h1 : s.size = 1
      · have g1 : ((s.size : Int) != 1) = false := by rw [h1]; rfl
        have l0 : 0 < s.size := by omega
        obtain ⟨c, hc⟩ : ∃ c, c = s[0]'l0 := ⟨_, rfl⟩
        have HS : Hid (s = ⟨#[c]⟩) := ba_ext (by
          have hl : s.data.toList.length = 1 := by simpa using h1
          obtain ⟨c', hc'⟩ := List.length_eq_one_iff.1 hl
          have := byte_at s 0 l0
          rw [hc'] at this
          rw [hc', hc]
          simpa using this)
        clear h1
        obtain ⟨p, hp⟩ : ∃ p, p = names (g.take k) := ⟨_, rfl⟩
        have HP := Lib.hid hp
        obtain ⟨q, hq⟩ : ∃ q, q = Lib.indexByte p.data.toList c := ⟨_, rfl⟩
        have HQ := Lib.hid hq
        have hps : p.size ≤ tot g := by rw [hp]; exact Nat.le_trans (names_size_le _) (tot_take_le g k)
        have HC := Lib.hid hc
        clear hp
        go_wp2_with fail
        have hBa := hB.alloc hB.size (.cells #[.string s, .string t] 46)
        have ca := Blk.new wr 46 #[.string s, .string t]
        have hga := (HGR.out).below ((Below.refl _ _).alloc (Nat.le_refl _) (.cells #[.string s, .string t] 46))
        obtain ⟨wa, hwa⟩ : ∃ wa, wa = wr.alloc (.cells #[.string s, .string t] 46) := ⟨_, rfl⟩
        rw [← hwa] at hBa ca hga ⊢
        have k0 := cell_regrown (ca.cell 0)
        have k1 := cell_regrown (ca.cell 1)
        have cL : ∀ d os, Calls Tryz.prog 59 #[.int .u8 (s[0]'l0).toNat] (grow (redrawn wa d) os) fun e w'' => e = .returned (.bool (letB c)) ∧ ∃ p : Regrown, w'' = grow (redrawn wa p.d) p.os := fun d os => by
          rw [hc]; exact same_grown (letter_any _ _)
        have cN : ∀ d os, Calls Tryz.prog 58 #[.slice (some ⟨b, off, none⟩) k cap] (grow (redrawn wa d) os) fun e w'' => e = .returned (.string p) ∧ ∃ p : Regrown, w'' = grow (redrawn wa p.d) p.os := fun d os => by
          have := names_any (some ⟨b, off, none⟩) cap (g.take k) (grow (redrawn wa d) os) ((gr_grown hga d os).take k) (by rw [len_take' g k hk]; omega) (Nat.le_trans (tot_take_le g k) (by omega))
          rw [len_take' g k hk, ← HP.out] at this
          exact Calls.regrown_of this
        have cF : ∀ d os, Calls Tryz.prog 60 #[.string p, .int .u8 (s[0]'l0).toNat] (grow (redrawn wa d) os) fun e w'' => e = .returned (.int .i64 q) ∧ ∃ p : Regrown, w'' = grow (redrawn wa p.d) p.os := fun d os => by
          have := same_grown (find_any p c (grow (redrawn wa d) os) (by omega))
          rw [← hq, hc] at this
          exact this
        clear hq hc hwa
        have hk63 : (k : Int) ≤ cap := by omega
        by_cases hlet : letB c = true
        · rw [hlet] at cL
          have HL := Lib.hid hlet
          clear hlet
          by_cases hin : 0 ≤ q
          · have hin' : decide (0 ≤ q) = true := by simpa using hin
            have HN := Lib.hid (show validB g = false from valid_no_round hlt (by
              rw [HE.out, HS.out, ← HP.out]; unfold roundB; rw [newB_one HL.out, ← contains_idx, ← HQ.out, hin']; rfl))
            clear hin
            refine wp_region_quiet_below (by kernel_rfl) (by kernel_rfl) ?_
            repeat (any_goals (first | go_big_quiet_step (first | with_reducible exact cL _ _ | with_reducible exact cN _ _ | with_reducible exact cF _ _) | quiet_step (first | with_reducible exact cL _ _ | with_reducible exact cN _ _ | with_reducible exact cF _ _)))
            all_goals (refine wpQuiet_nil ?_; intro _ hw'; obtain ⟨⟨dq, osq⟩, hw''⟩ := hw'; subst hw'')
            have hb2 := below_regrown wa dq osq
            generalize grow (redrawn wa dq) osq = w2 at hb2 ⊢
            clear cL cN cF k0 k1
            go_wp2_with fail
            go_ret
            exact ⟨ret_bool HN.out.symm, below_trans_self hBa hb2⟩
          · have hin' : decide (0 ≤ q) = false := by simpa using hin
            have HNB := Lib.hid (show newB p s = true by rw [HS.out, newB_one HL.out, ← contains_idx, ← HQ.out, hin']; rfl)
            clear hin
            by_cases ht2 : t.size ≤ 2
            · have g3 : decide (2 < (t.size : Int)) = false := by simp; omega
              refine wp_region_quiet_below (by kernel_rfl) (by kernel_rfl) ?_
              repeat (any_goals (first | go_big_quiet_step (first | with_reducible exact cL _ _ | with_reducible exact cN _ _ | with_reducible exact cF _ _) | quiet_step (first | with_reducible exact cL _ _ | with_reducible exact cN _ _ | with_reducible exact cF _ _)))
              all_goals (refine wpQuiet_nil ?_; intro _ hw'; obtain ⟨⟨dq, osq⟩, hw''⟩ := hw'; subst hw'')
              have hb2 := below_regrown wa dq osq
              have c2 := ca.below hb2 ca.lt
              generalize grow (redrawn wa dq) osq = w2 at hb2 c2 ⊢
              have hB2 := below_trans_self hBa hb2
              have hlt2 := c2.lt
              have hwlt : w.heap.size ≤ wr.heap.size := hB.size
              have x1 := c2.cell 1
              have HC2 := Lib.hid c2
              clear cL cN cF k0 k1 ca c2 hb2 hBa hga
              go_wp2_with fail
              obtain ⟨B, hBB⟩ : ∃ B, B = wr.heap.size := ⟨_, rfl⟩
              have HC3 : Hid (Blk w2 B 46 #[.string s, .string t]) := hBB ▸ HC2.out
              rw [← hBB] at hlt2 hwlt ⊢
              clear hBB x1 HC2 hB HGR hc0 hc1 hb
              obtain ⟨wo, hwo⟩ : ∃ wo : World, wo = wr := ⟨_, rfl⟩
              clear hwo
              go_loopw [47] (fun i wr => ∃ j : Nat, j ≤ t.size ∧ i = .int .i64 j ∧ Hid (∀ l (h : l < t.size), l < j → placeB t m l h = true) ∧ Blk wr B 46 #[.string s, .string t] ∧ Below w.heap.size w wr) (fun i _ => t.size - (intOf i).toNat)
              case atStart => exact ⟨0, Nat.zero_le _, rfl, fun j _ h => absurd h (by omega), HC3.out, hB2⟩
              case round =>
                obtain ⟨j, hj, rfl, HJ, hblk, hBi⟩ := hrel
                by_cases hjt : j < t.size
                · have x1 := hblk.cell 1
                  have HBK := Lib.hid hblk
                  obtain ⟨d, hd⟩ : ∃ d, d = t[j]'hjt := ⟨_, rfl⟩
                  obtain ⟨q1, hq1⟩ : ∃ q1, q1 = Lib.indexByte m.data.toList d := ⟨_, rfl⟩
                  obtain ⟨q2, hq2⟩ : ∃ q2, q2 = Lib.indexByte (t.extract 0 j).data.toList d := ⟨_, rfl⟩
                  have HPL := Lib.hid (show placeB t m j hjt = (decide (0 ≤ q1) && decide (q2 < 0)) by unfold placeB; rw [hq1, hq2, hd])
                  have cA : ∀ dd os, Calls Tryz.prog 60 #[.string m, .int .u8 (t[j]'hjt).toNat] (grow (redrawn wr dd) os) fun e w'' => e = .returned (.int .i64 q1) ∧ ∃ p : Regrown, w'' = grow (redrawn wr p.d) p.os := fun dd os => by
                    have := same_grown (find_any m d (grow (redrawn wr dd) os) (by omega))
                    rwa [← hq1, hd] at this
                  have cB : ∀ dd os, Calls Tryz.prog 60 #[.string (t.extract 0 j), .int .u8 (t[j]'hjt).toNat] (grow (redrawn wr dd) os) fun e w'' => e = .returned (.int .i64 q2) ∧ ∃ p : Regrown, w'' = grow (redrawn wr p.d) p.os := fun dd os => by
                    have := same_grown (find_any (t.extract 0 j) d (grow (redrawn wr dd) os) (by rw [ByteArray.size_extract]; omega))
                    rwa [← hq2, hd] at this
                  clear hd hq1 hq2 hblk
                  have k1 := cell_regrown x1
                  have hjt2 : (j : Int) < t.size := by omega
                  go_wp2_with fail
                  by_cases hA : q1 < 0
                  · have hA' : decide (q1 < 0) = true := by simpa using hA
                    have HN := Lib.hid (show validB g = false from valid_no_round hlt (by
                      rw [HE.out, HE2.out, ← HM.out]; unfold roundB; rw [nextB_no_place ht2 hjt (by rw [HPL.out]; simp; omega)]; simp))
                    clear hA
                    refine wp_region_quiet_below (by kernel_rfl) (by kernel_rfl) ?_
                    repeat (any_goals (first | go_big_quiet_step (first | with_reducible exact cA _ _ | with_reducible exact cB _ _) | quiet_step (first | with_reducible exact cA _ _ | with_reducible exact cB _ _)))
                    all_goals (refine wpQuiet_nil ?_; intro _ hw'; obtain ⟨⟨dq, osq⟩, hw''⟩ := hw'; subst hw'')
                    have hb3 := below_regrown wr dq osq
                    generalize grow (redrawn wr dq) osq = w3 at hb3 ⊢
                    clear cA cB k1 x1
                    go_wp2_with fail
                    go_ret
                    exact ⟨ret_bool HN.out.symm, below_trans_self hBi hb3⟩
                  · have hA' : decide (q1 < 0) = false := by simpa using hA
                    by_cases hBq : 0 ≤ q2
                    · have hB' : decide (0 ≤ q2) = true := by simpa using hBq
                      have HN := Lib.hid (show validB g = false from valid_no_round hlt (by
                        rw [HE.out, HE2.out, ← HM.out]; unfold roundB; rw [nextB_no_place ht2 hjt (by rw [HPL.out]; simp; omega)]; simp))
                      clear hA hBq
                      refine wp_region_quiet_below (by kernel_rfl) (by kernel_rfl) ?_
                      repeat (any_goals (first | go_big_quiet_step (first | with_reducible exact cA _ _ | with_reducible exact cB _ _) | quiet_step (first | with_reducible exact cA _ _ | with_reducible exact cB _ _)))
                      all_goals (refine wpQuiet_nil ?_; intro _ hw'; obtain ⟨⟨dq, osq⟩, hw''⟩ := hw'; subst hw'')
                      have hb3 := below_regrown wr dq osq
                      generalize grow (redrawn wr dq) osq = w3 at hb3 ⊢
                      clear cA cB k1 x1
                      go_wp2_with fail
                      go_ret
                      exact ⟨ret_bool HN.out.symm, below_trans_self hBi hb3⟩
                    · have hB' : decide (0 ≤ q2) = false := by simpa using hBq
                      have HPT := Lib.hid (show placeB t m j hjt = true by rw [HPL.out]; simp; omega)
                      clear hA hBq
                      refine wp_region_quiet_below (by kernel_rfl) (by kernel_rfl) ?_
                      repeat (any_goals (first | go_big_quiet_step (first | with_reducible exact cA _ _ | with_reducible exact cB _ _) | quiet_step (first | with_reducible exact cA _ _ | with_reducible exact cB _ _)))
                      all_goals (refine wpQuiet_nil ?_; intro _ hw'; obtain ⟨⟨dq, osq⟩, hw''⟩ := hw'; subst hw'')
                      have hb3 := below_regrown wr dq osq
                      generalize grow (redrawn wr dq) osq = w3 at hb3 ⊢
                      clear cA cB k1 x1
                      go_wp2_with fail
                      go_roundw
                      case rel =>
                        refine ⟨j + 1, by omega, by go_num, fun l h hl => ?_, HBK.out.below hb3 HBK.out.lt, below_trans_self hBi hb3⟩
                        rcases Nat.lt_succ_iff_lt_or_eq.1 hl with hl | rfl
                        · exact HJ.out l h hl
                        · exact HPT.out
                      case measure => simp [intOf]; omega
                · have HNX := Lib.hid (show nextB t m = true from (nextB_places ht2).2 fun l h => HJ.out l h (by omega))
                  clear hblk
                  go_wp2_with fail
                  go_roundw
                  case rel =>
                    refine ⟨k + 1, by omega, by go_num, fun l h hl => ?_, hBi⟩
                    rcases Nat.lt_succ_iff_lt_or_eq.1 hl with hl | rfl
                    · exact HK.out l h hl
                    · rw [HE.out, HE2.out, ← HP.out]; unfold roundB; rw [HNB.out, HNX.out]; rfl
                  case measure => simp [intOf]; omega
            · have g3 : decide (2 < (t.size : Int)) = true := by simp; omega
              have HN := Lib.hid (show validB g = false from valid_no_round hlt (by
                rw [HE.out, HE2.out]; unfold roundB; rw [nextB_long ht2]; simp))
              refine wp_region_quiet_below (by kernel_rfl) (by kernel_rfl) ?_
              repeat (any_goals (first | go_big_quiet_step (first | with_reducible exact cL _ _ | with_reducible exact cN _ _ | with_reducible exact cF _ _) | quiet_step (first | with_reducible exact cL _ _ | with_reducible exact cN _ _ | with_reducible exact cF _ _)))
              all_goals (refine wpQuiet_nil ?_; intro _ hw'; obtain ⟨⟨dq, osq⟩, hw''⟩ := hw'; subst hw'')
              have hb2 := below_regrown wa dq osq
              generalize grow (redrawn wa dq) osq = w2 at hb2 ⊢
              clear cL cN cF k0 k1
              go_wp2_with fail
              go_ret
              exact ⟨ret_bool HN.out.symm, below_trans_self hBa hb2⟩
        · have hlet' : letB c = false := by simpa using hlet
          rw [hlet'] at cL
          have HN := Lib.hid (show validB g = false from valid_no_round hlt (by
              rw [HE.out, HS.out]; unfold roundB newB nameB
              have e2 : (⟨#[c]⟩ : ByteArray).data.toList.getD 0 0 = c := rfl
              rw [e2, hlet']; simp))
          clear hlet hlet'
          refine wp_region_quiet_below (by kernel_rfl) (by kernel_rfl) ?_
          repeat (any_goals (first | go_big_quiet_step (exact cL _ _) | quiet_step (exact cL _ _)))
          all_goals (refine wpQuiet_nil ?_; intro _ hw'; obtain ⟨⟨dq, osq⟩, hw''⟩ := hw'; subst hw'')
          have hb2 := below_regrown wa dq osq
          generalize grow (redrawn wa dq) osq = w2 at hb2 ⊢
          clear cL cN cF k0 k1
          go_wp2_with fail
          go_ret
          exact ⟨ret_bool HN.out.symm, below_trans_self hBa hb2⟩
      · have g1 : ((s.size : Int) != 1) = true := by simp; omega
        have HN := Lib.hid (show validB g = false from valid_no_round hlt (by
          rw [HE.out]; unfold roundB newB; rw [name_size h1]; rfl))
        clear h1
        go_wp2_with fail
        have hBa := hB.alloc hB.size (.cells #[.string s, .string t] 46)
        have ca := Blk.new wr 46 #[.string s, .string t]
        obtain ⟨wa, hwa⟩ : ∃ wa, wa = wr.alloc (.cells #[.string s, .string t] 46) := ⟨_, rfl⟩
        rw [← hwa] at hBa ca ⊢
        have k0 := cell_regrown (ca.cell 0)
        clear hwa
        refine wp_region_quiet_below (by kernel_rfl) (by kernel_rfl) ?_
        repeat (any_goals (first | go_big_quiet_step (fail) | quiet_step (fail)))
        all_goals (refine wpQuiet_nil ?_; intro _ hw'; obtain ⟨⟨dq, osq⟩, hw''⟩ := hw'; subst hw'')
        have hb2 := below_regrown wa dq osq
        generalize grow (redrawn wa dq) osq = w2 at hb2 ⊢
        clear k0
        go_wp2_with fail
        go_ret
        exact ⟨ret_bool HN.out.symm, below_trans_self hBa hb2⟩
    · have HV := Lib.hid (show inB g.length 1 26 = validB g by
        have hr := valid_rounds.2 (fun j h => by have := HK.out j h (by omega); rwa [HM.out] at this)
        rw [Bool.eq_iff_iff, valid_iff]
        unfold inB
        simp only [Bool.and_eq_true, decide_eq_true_iff]
        constructor
        · intro ⟨h1, h2⟩; exact ⟨by omega, by omega, hr.1, hr.2⟩
        · intro ⟨h1, h2, _⟩; exact ⟨by omega, by omega⟩)
      go_wp2_with (go_at_call 61; refine (in_any _ _ _ _).mono ?_; rintro e w' ⟨rfl, rfl⟩)
      go_ret
      exact ⟨ret_bool HV.out, hB⟩
end Go.Proofs.YtdpjdhllaokbfaaGreat

/-
  A slice of blocks that came in, opened; the end of a law's row: what is returned is true, and what came in reads as it did.
-/
namespace Go.Proofs.YtdpjdhllaokbfaaGreat
open Go.ChangeShapes Go.WideShapes Go.ChangeAt Go.RowKit Go.Deep

theorem own : ownKnob Tryz.prog.godebug = none := by kernel_rfl
theorem laidOut : laidOutB Tryz.prog = true := by kernel_rfl
theorem cellsBlock : Tryz.prog.cellsOf 43 = 2 := by kernel_rfl
theorem cellsString : Tryz.prog.cellsOf 9 = 1 := by kernel_rfl

set_option maxRecDepth 100000 in
/-- A slice-of-blocks argument. -/
theorem open_blocks {H : Type} {enc : TypeId × Value → H} {W : World} {r : Reach} {b0 : Nat} {v : Value} {d : DataW H} {ps : List MemPlace}
    (hval : Value.okWide Tryz.prog W r b0 22 v) (h : DataW.Trod enc Tryz.prog W 0 (fun _ => true) true 22 v d ps) (hlt : ∀ x ∈ ps, x.block < W.heap.size) :
    ∃ (A : Option Addr) (cap : Nat) (g : List Bl), v = .slice A g.length cap ∧ g.length ≤ cap ∧ g.length ≤ maxLen ∧ Gr W A g ∧ ∀ b ∈ g, b.1.size ≤ maxLen ∧ b.2.size ≤ maxLen := by
  obtain ⟨a0, len, cap, rfl⟩ := okWide_slice Tryz.underlying22 hval
  obtain ⟨fuel, hf⟩ := h
  rcases open_slice_pairs Tryz.underlying22 Tryz.underlying43 cellsBlock rfl rfl cellsString cellsString hf with ⟨hcs, _⟩ | ⟨a, len', cap', m, n, V0, V1, D0, D1, P0, P1, hcs, _, hl, hm, hmm, hx, hall⟩
  · simp [Value.cells] at hcs
    obtain ⟨rfl, rfl, rfl⟩ := hcs
    exact ⟨none, 0, [], rfl, Nat.le_refl _, Nat.zero_le _, Gr.nil _ _, by simp⟩
  · simp [Value.cells] at hcs
    obtain ⟨rfl, rfl, rfl⟩ := hcs
    simp only [if_true] at hmm
    subst hmm
    have each : ∀ i, i < len → ∃ q : Bl, W.cell? (a.add (i * 2)) = some (.string q.1) ∧ W.cell? (a.add (i * 2 + 1)) = some (.string q.2) ∧ q.1.size ≤ maxLen ∧ q.2.size ≤ maxLen := by
      intro i hi
      obtain ⟨e0, e1, t0, t1⟩ := hall i (by omega)
      obtain ⟨s, hs, _, hs2⟩ := DataW.trod_string Tryz.underlying9 t0
      obtain ⟨t, ht, _, ht2⟩ := DataW.trod_string Tryz.underlying9 t1
      simp only [List.cons.injEq, and_true] at hs ht
      exact ⟨(s, t), by rw [e0, hs], by rw [e1, ht], hs2, ht2⟩
    obtain ⟨q, hq⟩ := choose_lt each
    refine ⟨some a, m, (List.range len).map q, by simp, by simpa using hl, by simp; omega, fun hn => ?_, ?_⟩
    · have hn' : 0 < len := by simpa using hn
      obtain ⟨b, off, spot⟩ := a
      have hspot : spot = none := by simpa [Addr.add] using World.cell?_spot (hq 0 hn').1
      subst hspot
      have hbW : b < W.heap.size := by
        have hx2 := (Prod.mk.inj hx).2
        have : MemPlace.cell b off ∈ ps := by
          rw [hx2]
          exact List.mem_append_left _ (MemPlace.mem_row.2 ⟨0, by omega, by simp⟩)
        exact hlt _ this
      refine ⟨b, off, rfl, hbW, fun k hk => ?_⟩
      have hk' : k < len := by simpa using hk
      have := hq k hk'
      rw [add_plain, add_plain] at this
      simp only [List.getElem_map, List.getElem_range]
      exact ⟨this.1, by rw [Nat.add_assoc]; exact this.2.1⟩
    · intro x hx'
      obtain ⟨i, hi, rfl⟩ := List.mem_map.1 hx'
      exact (hq i (List.mem_range.1 hi)).2.2
end Go.Proofs.YtdpjdhllaokbfaaGreat
