/-
  The program's blocksApart.
-/
import Derived.Test.YtibjldngdhcpaaaKnotsSpec
namespace Go.Proofs.Ytibjldngdhcpaaa
open Go.RowKit Go.Sort

def ownB (b : Bl) : Bool := decide (b.1.size ≠ 0) && ascB (b.1.extract 1 b.1.size)
def apartB (L : List Bl) : Bool := L.all ownB && onceB (names L)
theorem apartB_iff {L : List Bl} : apartB L = true ↔ (∀ b ∈ L, ownB b = true) ∧ onceB (names L) = true := by
  unfold apartB
  simp only [Bool.and_eq_true, List.all_eq_true]
theorem byt_append {p q : ByteArray} {i : Nat} (h : i < p.size) : byt (p ++ q) i = byt p i := by
  unfold byt
  rw [ba_append_toList, List.getElem?_append_left (by rw [list_of_size]; exact h)]
theorem once_prefix {p q : ByteArray} (h : onceB (p ++ q) = true) : onceB p = true := by
  refine onceB_iff.2 fun i hi => ?_
  have := onceB_iff.1 h i (by rw [ByteArray.size_append]; omega)
  rw [byt_append hi, ba_append_toList, List.take_append_of_le_length (by rw [list_of_size]; omega)] at this
  exact this
theorem once_snoc {p : ByteArray} {c : UInt8} : onceB (p ++ ⟨#[c]⟩) = true ↔ onceB p = true ∧ letB c = true ∧ c ∉ p.data.toList := by
  have hz : (p ++ ⟨#[c]⟩ : ByteArray).size = p.size + 1 := by rw [ByteArray.size_append]; rfl
  have hb : byt (p ++ ⟨#[c]⟩) p.size = c := by
    unfold byt
    rw [ba_append_toList, List.getElem?_append_right (by rw [list_of_size]; omega), list_of_size, Nat.sub_self]; rfl
  have ht : (p ++ ⟨#[c]⟩ : ByteArray).data.toList.take p.size = p.data.toList := by
    rw [ba_append_toList, List.take_append_of_le_length (by rw [list_of_size]; omega), List.take_of_length_le (by rw [list_of_size]; omega)]
  constructor
  · intro h
    have := onceB_iff.1 h p.size (by omega)
    rw [hb, ht, List.contains_eq_mem] at this
    exact ⟨once_prefix h, this.1, by simpa using this.2⟩
  · rintro ⟨h, h1, h2⟩
    refine onceB_iff.2 fun i hi => ?_
    rcases Nat.lt_or_ge i p.size with hl | hl
    · have := onceB_iff.1 h i hl
      rw [byt_append hl, ba_append_toList, List.take_append_of_le_length (by rw [list_of_size]; omega)]
      exact this
    · have : i = p.size := by omega
      subst this
      rw [hb, ht, List.contains_eq_mem]; exact ⟨h1, by simpa using h2⟩
theorem once_take {L : List Bl} {k i : Nat} (hk : k < L.length) (hi : i + 1 ≤ L[k].1.size) (h : onceB (names L) = true) : onceB (names (L.take k) ++ L[k].1.extract 0 (i + 1)) = true := by
  have e : names L = (names (L.take k) ++ L[k].1.extract 0 (i + 1)) ++ (L[k].1.extract (i + 1) L[k].1.size ++ names (L.drop (k + 1))) := by
    have h1 : names L = names (L.take k) ++ (L[k].1 ++ names (L.drop (k + 1))) := by
      conv => lhs; rw [← List.take_append_drop k L]
      rw [names_append]; congr 1
      rw [List.drop_eq_getElem_cons hk]; rfl
    have hx : L[k].1.extract 0 (i + 1) ++ L[k].1.extract (i + 1) L[k].1.size = L[k].1 := by
      rw [ByteArray.extract_append_extract]
      have : min 0 (i + 1) = 0 := by omega
      rw [this, show max (i + 1) L[k].1.size = L[k].1.size by omega]
      exact ByteArray.extract_zero_size
    rw [h1, ba_append_assoc, ← ba_append_assoc (L[k].1.extract 0 (i + 1)), hx]
  rw [e] at h
  exact once_prefix h

theorem cut_more {s : ByteArray} {i : Nat} (h : i < s.size) : s.extract 0 (i + 1) = s.extract 0 i ++ ⟨#[s[i]]⟩ := by
  rw [← ex_byte s (a := i) (b := i + 1) (by omega) (by omega) (by omega), ByteArray.extract_append_extract]
  rw [show min 0 i = 0 by omega, show max i (i + 1) = i + 1 by omega]
theorem cut_zero (s : ByteArray) : s.extract 0 0 = ⟨#[]⟩ := by apply ba_ext; rw [ext_take]; rfl
theorem nameB_one (c : UInt8) : nameB ⟨#[c]⟩ = letB c := rfl

theorem apart_no {L : List Bl} (h : ¬ ((∀ b ∈ L, ownB b = true) ∧ onceB (names L) = true)) : apartB L = false := Bool.eq_false_iff.2 fun e => h (apartB_iff.1 e)
set_option maxRecDepth 100000 in
set_option maxHeartbeats 3200000 in
theorem apart_any (A : Option Addr) (cap : Nat) (L : List Bl) (w : World) (hg : Gr w A L) (hn : L.length + tot L ≤ 1048576) :
    Calls Try.prog 72 #[.slice A L.length cap] w fun e w' => e = .returned (.bool (apartB L)) ∧ Below w.heap.size w w' := by
  have HG := Lib.hid hg
  clear hg
  go_enter Try.func72, Try.ntmps72
  go_wp2_with fail
  go_loopw [3, 10] (fun s i wr => ∃ k : Nat, k ≤ L.length ∧ i = .int .i64 k ∧ s = .string (names (L.take k)) ∧ Hid (∀ j (h : j < L.length), j < k → ownB L[j] = true) ∧ Hid (onceB (names (L.take k)) = true) ∧ Below w.heap.size w wr) (fun _ i _ => L.length - (intOf i).toNat)
  case atStart => exact ⟨0, Nat.zero_le _, rfl, rfl, fun j _ h => absurd h (by omega), rfl, Below.refl _ _⟩
  case round =>
    obtain ⟨k, hk, rfl, rfl, HK, HO, hB⟩ := hrel
    have hs := names_size_le (L.take k)
    have hs2 := tot_take_le L k
    obtain ⟨m, hm⟩ : ∃ m, m = names (L.take k) := ⟨_, rfl⟩
    have HM := Lib.hid hm
    rw [← hm] at hs HO ⊢
    clear hm
    by_cases hlt : k < L.length
    · obtain ⟨b, off, s, t, rfl, hb, hc0, hc1, he, he2⟩ := gr_at (HG.out.below hB) hlt
      have hs3 := tot_take L k hlt
      have hs4 := tot_take_le L (k + 1)
      rw [he, he2] at hs3
      have HE := Lib.hid (show L[k] = (s, t) from Prod.ext he he2)
      have HN := Lib.hid (names_take L k hlt)
      clear he he2
      have hkn : ownB (s, t) = (decide (s.size ≠ 0) && ascB (s.extract 1 s.size)) := rfl
      have hno : ownB (s, t) = false → apartB L = false := fun h => apart_no fun e => by
        have := e.1 _ (List.getElem_mem hlt)
        rw [HE.out, h] at this; cases this
      by_cases h0 : s.size = 0
      · have q0 : s.toList.isEmpty = true := by rw [List.isEmpty_iff, ← List.length_eq_zero_iff, Lib.toList_data, Array.length_toList]; exact h0
        have HNO := Lib.hid (hno (by rw [hkn]; simp [h0]))
        clear h0 hno hkn
        go_wp2_with fail
        go_ret
        exact ⟨ret_bool HNO.out.symm, hB.alloc hB.size _⟩
      · have q0 : s.toList.isEmpty = false := by rw [Bool.eq_false_iff, ne_eq, List.isEmpty_iff, ← List.length_eq_zero_iff, Lib.toList_data, Array.length_toList]; exact h0
        have q1 : 1 ≤ s.size := by omega
        have q2 : (1 : Int) ≤ s.size := by omega
        have hez : (s.extract 1 s.size).size ≤ 1048576 := by rw [ByteArray.size_extract]; omega
        obtain ⟨r1, hr1⟩ : ∃ r, r = ascB (s.extract 1 s.size) := ⟨_, rfl⟩
        have HR1 : Hid (∀ W, Calls Try.prog 95 #[.string (s.extract 1 s.size)] W fun e w' => e = .returned (.bool r1) ∧ Below W.heap.size W w') := fun W => by rw [hr1]; exact ascending_any _ W hez
        have HKN := Lib.hid (show ownB (s, t) = r1 by rw [hkn, ← hr1]; simp [h0])
        have HNO := Lib.hid hno
        have hBa := hB.alloc hB.size (.cells #[.string s, .string t] 58)
        have ca := Blk.new wr 58 #[.string s, .string t]
        have hlt0 := hB.size
        have HB := Lib.hid hB
        have HBA := Lib.hid hBa
        have HCA := Lib.hid ca
        clear hr1 h0 hkn hno hez hB hBa ca
        cases r1 with
        | false =>
          go_wp2_with fail
          refine (HR1.out _).mono ?_
          rintro e w2 ⟨rfl, b2⟩
          have HB2 := Lib.hid (below_trans_self HBA.out b2)
          clear b2
          go_wp2_with fail
          go_ret
          exact ⟨ret_bool (HNO.out (by rw [HKN.out])).symm, HB2.out⟩
        | true =>
          go_wp2_with fail
          refine (HR1.out _).mono ?_
          rintro e w2 ⟨rfl, b2⟩
          have HB2 := Lib.hid (below_trans_self HBA.out b2)
          have c2 := HCA.out.below b2 HCA.out.lt
          have x0 := c2.cell 0
          obtain ⟨B, hBB⟩ : ∃ B, B = wr.heap.size := ⟨_, rfl⟩
          rw [← hBB] at x0 c2 ⊢
          have HC2 := Lib.hid c2
          have HBW := Lib.hid (show w.heap.size ≤ B by rw [hBB]; exact hlt0)
          clear b2 c2 HBA HCA hBB
          go_wp2_with fail
          go_loopw [3, 27] (fun s0 i wr => ∃ (j : Nat) (p : ByteArray), j ≤ s.size ∧ i = .int .i64 j ∧ s0 = .string p ∧ Hid (p = m ++ s.extract 0 j) ∧ p.size = m.size + j ∧ Hid (onceB p = true) ∧ Blk wr B 58 #[.string s, .string t] ∧ Below w.heap.size w wr) (fun _ i _ => s.size - (intOf i).toNat)
          case atStart => exact ⟨0, m, Nat.zero_le _, rfl, rfl, (show m = m ++ s.extract 0 0 by rw [cut_zero, ba_append_empty]), rfl, HO.out, HC2.out, HB2.out⟩
          case round =>
            obtain ⟨j, p, hj, rfl, rfl, HP, hps, HOP, hblk, hBi⟩ := hrel
            by_cases hjt : j < s.size
            · have hj1 : j + 1 ≤ s.size := by omega
              have y0 := hblk.cell 0
              have HBK := Lib.hid hblk
              have HBI := Lib.hid hBi
              have hn1 : s.extract j (j + 1) = ⟨#[s[j]]⟩ := ex_byte _ (by omega) (by omega) (by omega)
              have HNM := Lib.hid (show p ++ s.extract j (j + 1) = m ++ s.extract 0 (j + 1) by rw [hn1, HP.out, cut_more hjt, ba_append_assoc])
              have HYES : Hid (onceB (p ++ s.extract j (j + 1)) = false → apartB L = false) := fun h => apart_no fun e => by
                have hj2 : j + 1 ≤ L[k].1.size := by rw [HE.out]; exact hj1
                have := once_take hlt hj2 e.2
                simp only [HE.out] at this
                rw [← HM.out] at this
                rw [HNM.out, this] at h; cases h
              have HI : Hid (∀ W, Calls Try.prog 96 #[.string (s.extract j (j + 1))] W fun e w' => e = .returned (.bool (letB s[j])) ∧ W = w') := fun W => by have := isName_any (s.extract j (j + 1)) W; rw [hn1, nameB_one] at this; rw [hn1]; exact this
              have HCO : Hid (∀ W, Calls Try.prog 97 #[.string p, .string (s.extract j (j + 1))] W fun e w' => e = .returned (.bool (p.data.toList.contains s[j])) ∧ W = w') := fun W => by rw [hn1]; exact containsOne_any p s[j] W
              have hop : onceB (p ++ s.extract j (j + 1)) = (letB s[j] && !p.data.toList.contains s[j]) := by
                rw [hn1, Bool.eq_iff_iff, once_snoc, Bool.and_eq_true, Bool.not_eq_true', List.contains_eq_mem, decide_eq_false_iff_not]
                exact ⟨fun e => e.2, fun e => ⟨HOP.out, e⟩⟩
              have hz1 : p.size + (s.extract j (j + 1)).size ≤ 1048576 := by rw [hn1]; show p.size + 1 ≤ _; omega
              have hz2 : (p ++ s.extract j (j + 1)).size = m.size + (j + 1) := by rw [ByteArray.size_append, hn1]; show p.size + 1 = _; omega
              have HZ2 := Lib.hid hz2
              clear hn1 hblk hBi hz2
              obtain ⟨r1, hr1⟩ : ∃ r, r = letB s[j] := ⟨_, rfl⟩
              obtain ⟨r2, hr2⟩ : ∃ r, r = p.data.toList.contains s[j] := ⟨_, rfl⟩
              rw [← hr1] at hop HI
              rw [← hr2] at hop HCO
              have HOPP := Lib.hid hop
              clear hr1 hr2 hop
              cases r1 with
              | false =>
                go_wp2_with fail
                refine (HI.out _).mono ?_
                rintro e w3 ⟨rfl, rfl⟩
                go_wp2_with fail
                go_ret
                exact ⟨ret_bool (HYES.out (by rw [HOPP.out]; rfl)).symm, HBI.out⟩
              | true =>
                cases r2 with
                | true =>
                  go_wp2_with fail
                  refine (HI.out _).mono ?_
                  rintro e w3 ⟨rfl, rfl⟩
                  go_wp2_with fail
                  refine (HCO.out _).mono ?_
                  rintro e w3 ⟨rfl, rfl⟩
                  go_wp2_with fail
                  go_ret
                  exact ⟨ret_bool (HYES.out (by rw [HOPP.out]; rfl)).symm, HBI.out⟩
                | false =>
                  go_wp2_with fail
                  refine (HI.out _).mono ?_
                  rintro e w3 ⟨rfl, rfl⟩
                  go_wp2_with fail
                  refine (HCO.out _).mono ?_
                  rintro e w3 ⟨rfl, rfl⟩
                  go_wp2_with fail
                  go_roundw
                  case rel => exact ⟨j + 1, _, by omega, by go_num, rfl, HNM.out, HZ2.out, (by rw [HOPP.out]; rfl), HBK.out, HBI.out⟩
                  case measure => simp [intOf]; omega
            · have hje : j = s.size := by omega
              have HEN := Lib.hid (show p = names (L.take (k + 1)) by rw [HN.out, HE.out, ← HM.out, HP.out, hje, ByteArray.extract_zero_size])
              have HBI := Lib.hid hBi
              clear hje hblk hBi
              go_wp2_with fail
              go_roundw
              case rel => exact ⟨k + 1, by omega, by go_num, by rw [HEN.out], fun j h hj => by
                rcases Nat.lt_succ_iff_lt_or_eq.1 hj with hj | rfl
                · exact HK.out j h hj
                · rw [HE.out, HKN.out], by rw [← HEN.out]; exact HOP.out, HBI.out⟩
              case measure => simp [intOf]; omega
    · have HALL := Lib.hid (show ∀ b ∈ L, ownB b = true from fun b hb => by
        obtain ⟨i, hi, rfl⟩ := List.getElem_of_mem hb
        exact HK.out i hi (by omega))
      have HN := Lib.hid (show apartB L = true from apartB_iff.2 ⟨HALL.out, by rw [← List.take_of_length_le (l := L) (i := k) (by omega), ← HM.out]; exact HO.out⟩)
      go_wp2_with fail
      go_ret
      exact ⟨ret_bool HN.out.symm, hB⟩
end Go.Proofs.Ytibjldngdhcpaaa
