/-
  When knots are valid; the model's KnotsValid.
-/
import Derived.Test.YtibjldngdhcpaaaReachedK
import Derived.Test.YtibjldngdhcpaaaValids
namespace Go.Proofs.Ytibjldngdhcpaaa
open Go.RowKit Go.Sort

/-- A knot by itself. -/
def knotB (b : Bl) : Bool := decide (b.1.size ≠ 0) && (ascB (b.1.extract 1 b.1.size) && ascB b.2)
/-- A letter is a door. -/
def isDoor (L : List Bl) (c : UInt8) : Bool := (posOf (doorG L) ⟨#[c]⟩).isSome
def doorsB (L : List Bl) (s : ByteArray) : Bool := s.data.toList.all (isDoor L)
def knB (L : List Bl) : Bool := decide (0 < L.length) && (L.all knotB && (onceB (names L) && (L.all (fun b => doorsB L b.2) && decide ((reach (doorG L)).length = L.length))))

theorem knB_iff {L : List Bl} : knB L = true ↔ 0 < L.length ∧ (∀ b ∈ L, knotB b = true) ∧ onceB (names L) = true ∧ (∀ b ∈ L, doorsB L b.2 = true) ∧ (reach (doorG L)).length = L.length := by
  unfold knB
  simp only [Bool.and_eq_true, decide_eq_true_eq, List.all_eq_true]

theorem knotB_size {b : Bl} (h : knotB b = true) : 1 ≤ b.1.size := by
  unfold knotB at h
  simp only [Bool.and_eq_true, decide_eq_true_eq] at h
  omega

theorem door_one {b : Bl} (h : 1 ≤ b.1.size) : b.1.extract 0 1 = ⟨#[byt b.1 0]⟩ := by
  rw [ex_byte _ (a := 0) (b := 1) (by omega) (by omega) (by omega), byt_at (by omega)]

/-- Letters of different knots differ where none stands twice. -/
theorem once_apart {L : List Bl} (ho : onceB (names L) = true) {i j : Nat} (hi : i < j) (hj : j < L.length) {c : UInt8} (h1 : c ∈ (L[i]'(by omega)).1.data.toList) {k : Nat} (hk : k < L[j].1.size) : byt L[j].1 k ≠ c := by
  intro e
  have hn : names L = names (L.take j) ++ (L[j].1 ++ names (L.drop (j + 1))) := by
    conv => lhs; rw [← List.take_append_drop j L]
    rw [names_append]; congr 1
    rw [List.drop_eq_getElem_cons hj]; rfl
  have hd : (names L).data.toList = (names (L.take j)).data.toList ++ (L[j].1.data.toList ++ (names (L.drop (j + 1))).data.toList) := by rw [hn, ba_append_toList, ba_append_toList]
  have hz : (names (L.take j)).data.toList.length = (names (L.take j)).size := list_of_size
  have hl : (names L).size = (names (L.take j)).size + (L[j].1.size + (names (L.drop (j + 1))).size) := by rw [hn, ByteArray.size_append, ByteArray.size_append]
  have h2 := (onceB_iff.1 ho ((names (L.take j)).size + k) (by omega)).2
  have hb : byt (names L) ((names (L.take j)).size + k) = byt L[j].1 k := by
    unfold byt
    rw [hd, List.getElem?_append_right (by omega), hz, Nat.add_sub_cancel_left, List.getElem?_append_left (by rw [list_of_size]; exact hk)]
  rw [hb, e, List.contains_eq_mem] at h2
  have h3 : c ∈ (names L).data.toList.take ((names (L.take j)).size + k) := by
    rw [hd, List.take_append]
    refine List.mem_append_left _ ?_
    rw [List.take_of_length_le (by omega)]
    exact mem_names.2 ⟨L[i]'(by omega), by rw [List.mem_take_iff_getElem]; exact ⟨i, by omega, rfl⟩, h1⟩
  simp [h3] at h2

theorem dg_of {L : List Bl} (h0 : 0 < L.length) (h1 : ∀ b ∈ L, 1 ≤ b.1.size) (ho : onceB (names L) = true) (hd : ∀ b ∈ L, doorsB L b.2 = true) : DG (doorG L) where
  pos := by rw [doorG_length]; exact h0
  one := fun i h => by
    have h' : i < L.length := by rw [doorG_length] at h; exact h
    exact ⟨byt L[i].1 0, by rw [doorG_get h', door_one (h1 _ (List.getElem_mem h'))], trivial⟩
  inj := by
    have key : ∀ i j (hi : i < L.length) (hj : j < L.length), i < j → L[i].1.extract 0 1 ≠ L[j].1.extract 0 1 := by
      intro i j hi hj hlt e
      have a1 := h1 _ (List.getElem_mem hi)
      rw [door_one a1, door_one (h1 _ (List.getElem_mem hj))] at e
      have e' : byt L[i].1 0 = byt L[j].1 0 := by injection e with e; simpa using e
      refine once_apart ho hlt hj (c := byt L[i].1 0) (k := 0) ?_ (h1 _ (List.getElem_mem hj)) e'.symm
      rw [byt_at (by omega)]; exact List.mem_of_getElem? (byte_at _ 0 (by omega))
    intro i j hi hj e
    have hi' : i < L.length := by rw [doorG_length] at hi; exact hi
    have hj' : j < L.length := by rw [doorG_length] at hj; exact hj
    rw [doorG_get hi', doorG_get hj'] at e
    rcases Nat.lt_trichotomy i j with h | h | h
    · exact absurd e (key i j hi' hj' h)
    · exact h
    · exact absurd e.symm (key j i hj' hi' h)
  nx := fun {k} hk {j} hj => by
    have hk' : k < L.length := by rw [doorG_length] at hk; exact hk
    have hx := hd _ (List.getElem_mem hk')
    have e2 : (doorG L)[k].2 = L[k].2 := by rw [doorG_get hk']
    have hj' : j < L[k].2.size := by rw [← e2]; exact hj
    have := (List.all_eq_true.1 hx) _ (List.mem_of_getElem? (byte_at _ j hj'))
    unfold isDoor at this
    obtain ⟨i, hi⟩ := Option.isSome_iff_exists.1 this
    have e3 : (doorG L)[k].2[j]'hj = L[k].2[j]'hj' := by congr 1
    rw [e3]
    obtain ⟨h, hn⟩ := posOf_is hi
    exact ⟨i, h, hi, hn⟩

theorem doorI_no {L : List Bl} {c : UInt8} : doorI L ⟨#[c]⟩ < 0 ↔ isDoor L c = false := by
  unfold doorI isDoor
  cases posOf (doorG L) ⟨#[c]⟩ with
  | none => simp
  | some i => simp
theorem knB_no {L : List Bl} (h : ¬ (0 < L.length ∧ (∀ b ∈ L, knotB b = true) ∧ onceB (names L) = true ∧ (∀ b ∈ L, doorsB L b.2 = true) ∧ (reach (doorG L)).length = L.length)) : knB L = false := Bool.eq_false_iff.2 fun e => h (knB_iff.1 e)

set_option maxRecDepth 100000 in
set_option maxHeartbeats 3200000 in
theorem specKnots_any (A : Option Addr) (cap : Nat) (L : List Bl) (w : World) (hg : Gr w A L) (hn : L.length + tot L ≤ 1048576) :
    Calls Try.prog 12 #[.slice A L.length cap] w fun e w' => e = .returned (.bool (knB L)) ∧ Below w.heap.size w w' := by
  have HG := Lib.hid hg
  clear hg
  go_enter Try.func12, Try.ntmps12
  go_wp2_with fail
  go_loopw [3, 11] (fun s i wr => ∃ k : Nat, k ≤ L.length ∧ i = .int .i64 k ∧ s = .string (names (L.take k)) ∧ Hid (∀ j (h : j < L.length), j < k → knotB L[j] = true) ∧ Below w.heap.size w wr) (fun _ i _ => L.length - (intOf i).toNat)
  case atStart => exact ⟨0, Nat.zero_le _, rfl, rfl, fun j _ h => absurd h (by omega), Below.refl _ _⟩
  case round =>
    obtain ⟨k, hk, rfl, rfl, HK, hB⟩ := hrel
    have hs := names_size_le (L.take k)
    have hs2 := tot_take_le L k
    obtain ⟨m, hm⟩ : ∃ m, m = names (L.take k) := ⟨_, rfl⟩
    have HM := Lib.hid hm
    rw [← hm] at hs ⊢
    clear hm
    by_cases hlt : k < L.length
    · obtain ⟨b, off, s, t, rfl, hb, hc0, hc1, he, he2⟩ := gr_at (HG.out.below hB) hlt
      have hs3 := tot_get L k hlt
      rw [he, he2] at hs3
      have HE := Lib.hid (show L[k] = (s, t) from Prod.ext he he2)
      have HN := Lib.hid (names_take L k hlt)
      clear he he2
      have hkn : knotB (s, t) = (decide (s.size ≠ 0) && (ascB (s.extract 1 s.size) && ascB t)) := rfl
      have hno : knotB (s, t) = false → knB L = false := fun h => knB_no fun e => by
        have := e.2.1 _ (List.getElem_mem hlt)
        rw [HE.out, h] at this; cases this
      by_cases h0 : s.size = 0
      · have q0 : s.toList.isEmpty = true := by rw [List.isEmpty_iff, ← List.length_eq_zero_iff, Lib.toList_data, Array.length_toList]; exact h0
        have HNO := Lib.hid (hno (by rw [hkn]; simp [h0]))
        clear h0 hno hkn
        go_wp2_with fail
        go_ret
        exact ⟨ret_bool HNO.out.symm, hB.alloc hB.size _⟩
      · have q0 : s.toList.isEmpty = false := by rw [Bool.eq_false_iff, ne_eq, List.isEmpty_iff, ← List.length_eq_zero_iff, Lib.toList_data, Array.length_toList]; exact h0
        have q1 : 1 ≤ s.size := by omega
        have q2 : (1 : Int) ≤ s.size := by omega
        have hez : (s.extract 1 s.size).size ≤ 1048576 := by rw [ByteArray.size_extract]; omega
        obtain ⟨r1, hr1⟩ : ∃ r, r = ascB (s.extract 1 s.size) := ⟨_, rfl⟩
        obtain ⟨r2, hr2⟩ : ∃ r, r = ascB t := ⟨_, rfl⟩
        have HR1 : Hid (∀ W, Calls Try.prog 43 #[.string (s.extract 1 s.size)] W fun e w' => e = .returned (.bool r1) ∧ Below W.heap.size W w') := fun W => by rw [hr1]; exact rest_any _ W hez
        have HR2 : Hid (∀ W, Calls Try.prog 43 #[.string t] W fun e w' => e = .returned (.bool r2) ∧ Below W.heap.size W w') := fun W => by rw [hr2]; exact rest_any _ W (by omega)
        have HKN := Lib.hid (show knotB (s, t) = (r1 && r2) by rw [hkn, ← hr1, ← hr2]; simp [h0])
        have HNO := Lib.hid hno
        have hBa := hB.alloc hB.size (.cells #[.string s, .string t] 58)
        have ca := Blk.new wr 58 #[.string s, .string t]
        have hlt0 := hB.size
        have HB := Lib.hid hB
        have HBA := Lib.hid hBa
        have HCA := Lib.hid ca
        clear hr1 hr2 h0 hkn hno hez hB hBa ca
        cases r1 with
        | false =>
          go_wp2_with fail
          refine (HR1.out _).mono ?_
          rintro e w2 ⟨rfl, b2⟩
          have HB2 := Lib.hid (below_trans_self HBA.out b2)
          clear b2
          go_wp2_with fail
          go_ret
          exact ⟨ret_bool (HNO.out (by rw [HKN.out]; rfl)).symm, HB2.out⟩
        | true =>
          cases r2 with
          | false =>
            go_wp2_with fail
            refine (HR1.out _).mono ?_
            rintro e w2 ⟨rfl, b2⟩
            have HB2 := Lib.hid (below_trans_self HBA.out b2)
            have c2 := HCA.out.below b2 HCA.out.lt
            have x1 := c2.cell 1
            have HC2 := Lib.hid c2
            clear b2 c2
            go_wp2_with fail
            refine (HR2.out _).mono ?_
            rintro e w3 ⟨rfl, b3⟩
            have HB3 := Lib.hid (below_trans_self HB2.out b3)
            clear b3
            go_wp2_with fail
            go_ret
            exact ⟨ret_bool (HNO.out (by rw [HKN.out]; rfl)).symm, HB3.out⟩
          | true =>
            go_wp2_with fail
            refine (HR1.out _).mono ?_
            rintro e w2 ⟨rfl, b2⟩
            have HB2 := Lib.hid (below_trans_self HBA.out b2)
            have c2 := HCA.out.below b2 HCA.out.lt
            have x1 := c2.cell 1
            have HC2 := Lib.hid c2
            clear c2
            have hz2 := b2.size
            clear b2
            go_wp2_with fail
            refine (HR2.out _).mono ?_
            rintro e w3 ⟨rfl, b3⟩
            have HB3 := Lib.hid (below_trans_self HB2.out b3)
            have c3 := HC2.out.below b3 HC2.out.lt
            have x0 := c3.cell 0
            clear b3 c3 x1
            go_wp2_with fail
            go_roundw
            case rel => exact ⟨k + 1, by omega, by go_num, by rw [HN.out, HE.out, ← HM.out], fun j h hj => by
              rcases Nat.lt_succ_iff_lt_or_eq.1 hj with hj | rfl
              · exact HK.out j h hj
              · rw [HE.out, HKN.out]; rfl, HB3.out⟩
            case measure => simp [intOf]; omega
    · have HALL := Lib.hid (show ∀ b ∈ L, knotB b = true from fun b hb => by
        obtain ⟨i, hi, rfl⟩ := List.getElem_of_mem hb
        exact HK.out i hi (by omega))
      have H1 := Lib.hid (show ∀ b ∈ L, 1 ≤ b.1.size from fun b hb => knotB_size (HALL.out b hb))
      have HMN := Lib.hid (show m = names L by rw [HM.out, List.take_of_length_le (by omega)])
      have hmz : m.size ≤ 1048576 := by omega
      obtain ⟨wo, hwo⟩ : ∃ wo : World, wo = wr := ⟨_, rfl⟩
      have HB := Lib.hid hB
      clear hs hs2 hB
      go_wp2_with fail
      go_loopw [38] (fun i wr => ∃ k : Nat, k ≤ L.length ∧ i = .int .i64 k ∧ Hid (∀ j (h : j < L.length), j < k → doorsB L L[j].2 = true) ∧ Below w.heap.size w wr) (fun i _ => L.length - (intOf i).toNat)
      case atStart => exact ⟨0, Nat.zero_le _, rfl, fun j _ h => absurd h (by omega), HB.out⟩
      case round =>
        clear HB hwo wo
        obtain ⟨k, hk, rfl, HD, hB⟩ := hrel
        by_cases hlt : k < L.length
        · obtain ⟨b, off, s, t, rfl, hb, hc0, hc1, he, he2⟩ := gr_at (HG.out.below hB) hlt
          have hs3 := tot_get L k hlt
          rw [he, he2] at hs3
          have HE := Lib.hid (show L[k] = (s, t) from Prod.ext he he2)
          clear he he2
          have hBa := hB.alloc hB.size (.cells #[.string s, .string t] 58)
          have ca := Blk.new wr 58 #[.string s, .string t]
          have HB := Lib.hid hB
          go_wp2_with fail
          obtain ⟨wa, hwa⟩ : ∃ wa, wa = wr.alloc (.cells #[.string s, .string t] 58) := ⟨_, rfl⟩
          rw [← hwa] at hBa ca ⊢
          have x1 := ca.cell 1
          have HBA := Lib.hid hBa
          have HCA := Lib.hid ca
          have HDK : Hid (doorsB L t = false → knB L = false) := fun h => knB_no fun e => by
            have := e.2.2.2.1 _ (List.getElem_mem hlt)
            rw [HE.out, h] at this; cases this
          obtain ⟨B, hBB⟩ : ∃ B, B = wr.heap.size := ⟨_, rfl⟩
          rw [← hBB] at x1 HCA ⊢
          have HBW := Lib.hid (show w.heap.size ≤ B by rw [hBB]; exact HB.out.size)
          clear hBa ca hB hwa hBB
          go_wp2_with fail
          go_loopw [45] (fun i wr => ∃ j : Nat, j ≤ t.size ∧ i = .int .i64 j ∧ Hid (∀ i (h : i < t.size), i < j → isDoor L t[i] = true) ∧ Blk wr B 58 #[.string s, .string t] ∧ Below w.heap.size w wr) (fun i _ => t.size - (intOf i).toNat)
          case atStart => exact ⟨0, Nat.zero_le _, rfl, fun j _ h => absurd h (by omega), HCA.out, HBA.out⟩
          case round =>
            obtain ⟨j, hj, rfl, HJ, hblk, hBi⟩ := hrel
            by_cases hjt : j < t.size
            · have hj1 : j + 1 ≤ t.size := by omega
              obtain ⟨z, hz⟩ : ∃ z, z = doorI L (t.extract j (j + 1)) := ⟨_, rfl⟩
              have HDR : Hid (∀ W, Gr W (some ⟨b, off, none⟩) L → Calls Try.prog 44 #[.slice (some ⟨b, off, none⟩) L.length cap, .string (t.extract j (j + 1))] W fun e w' => e = .returned (.int .i64 z) ∧ Below W.heap.size W w') := fun W h => by rw [hz]; exact doorS_any _ cap L _ W h hn H1.out
              have hzi : z < 0 ↔ isDoor L t[j] = false := by
                rw [hz, ex_byte _ (a := j) (b := j + 1) (by omega) (by omega) (by omega)]
                exact doorI_no
              have y1 := hblk.cell 1
              have HBK := Lib.hid hblk
              have HBI := Lib.hid hBi
              clear hz hblk hBi
              by_cases hd : isDoor L t[j] = true
              · have q1 : ¬ z < 0 := fun h => by rw [hzi.1 h] at hd; cases hd
                have HDD := Lib.hid hd
                clear hd hzi
                go_wp2_with fail
                refine (HDR.out _ (HG.out.below HBI.out)).mono ?_
                rintro e w4 ⟨rfl, b4⟩
                have HB4 := Lib.hid (below_trans_self HBI.out b4)
                have HBK4 := Lib.hid (HBK.out.below b4 HBK.out.lt)
                clear b4
                go_wp2_with fail
                go_roundw
                case rel => exact ⟨j + 1, by omega, by go_num, fun i h hi => by
                  rcases Nat.lt_succ_iff_lt_or_eq.1 hi with hi | rfl
                  · exact HJ.out i h hi
                  · exact HDD.out, HBK4.out, HB4.out⟩
                case measure => simp [intOf]; omega
              · have hd' : isDoor L t[j] = false := by simpa using hd
                have q1 : z < 0 := hzi.2 hd'
                have HN := Lib.hid (HDK.out (Bool.eq_false_iff.2 fun e => hd (by
                  unfold doorsB at e
                  exact (List.all_eq_true.1 e) _ (List.mem_of_getElem? (byte_at _ j hjt)))))
                clear hd hd' hzi
                go_wp2_with fail
                refine (HDR.out _ (HG.out.below HBI.out)).mono ?_
                rintro e w4 ⟨rfl, b4⟩
                have HB4 := Lib.hid (below_trans_self HBI.out b4)
                clear b4
                go_wp2_with fail
                go_ret
                exact ⟨ret_bool HN.out.symm, HB4.out⟩
            · have HN := Lib.hid (show doorsB L t = true by
                unfold doorsB
                refine List.all_eq_true.2 fun c hc => ?_
                obtain ⟨i, hi, rfl⟩ := List.getElem_of_mem hc
                have hi' : i < t.size := by rw [list_of_size] at hi; exact hi
                have := HJ.out i hi' (by omega)
                have e := byte_at t i hi'
                rw [List.getElem?_eq_getElem hi] at e
                rw [Option.some.inj e]; exact this)
              have HBI := Lib.hid hBi
              clear hblk hBi
              go_wp2_with fail
              go_roundw
              case rel => exact ⟨k + 1, by omega, by go_num, fun j h hj => by
                rcases Nat.lt_succ_iff_lt_or_eq.1 hj with hj | rfl
                · exact HD.out j h hj
                · rw [HE.out]; exact HN.out, HBI.out⟩
              case measure => simp [intOf]; omega
        · have HDA := Lib.hid (show ∀ b ∈ L, doorsB L b.2 = true from fun b hb => by
            obtain ⟨i, hi, rfl⟩ := List.getElem_of_mem hb
            exact HD.out i hi (by omega))
          have HB := Lib.hid hB
          clear hB
          by_cases h0 : L.length = 0
          · have HN := Lib.hid (show knB L = false from knB_no fun e => by have := e.1; omega)
            have q0 : ((L.length : Int) ≤ 0) := by omega
            have q1 : ¬ (0 < (L.length : Int)) := by omega
            clear h0
            go_wp2_with fail
            go_ret
            exact ⟨ret_bool HN.out.symm, HB.out⟩
          · have q1 : 0 < (L.length : Int) := by omega
            by_cases ho : onceB m = true
            · have HL : Hid (∀ W, Calls Try.prog 45 #[.string m] W fun e w' => e = .returned (.bool true) ∧ Below W.heap.size W w') := fun W => by have := letters_any m W hmz; rwa [ho] at this
              obtain ⟨G, hG⟩ : ∃ G, G = doorG L := ⟨_, rfl⟩
              have hdg : DG G := hG ▸ dg_of (by omega) H1.out (HMN.out ▸ ho) HDA.out
              have HR : Hid (∀ W, Gr W A L → Calls Try.prog 46 #[.slice A L.length cap] W fun e w' => e = .returned (.string (namesAt G (reach G))) ∧ Below W.heap.size W w') := fun W h => reachedS_any A cap L G W hG h hn hdg H1.out
              obtain ⟨o, ho2⟩ : ∃ o, o = namesAt G (reach G) := ⟨_, rfl⟩
              have hos : o.size = (reach G).length := by rw [ho2]; exact namesAt_size_d hdg _ (bfs_lt_d hdg _)
              rw [← ho2] at HR
              have HN := Lib.hid (show knB L = decide (o.size = L.length) by
                rw [Bool.eq_iff_iff, knB_iff, decide_eq_true_eq, hos, hG]
                exact ⟨fun e => e.2.2.2.2, fun e => ⟨by omega, HALL.out, HMN.out ▸ ho, HDA.out, e⟩⟩)
              clear ho hdg ho2 hos hG h0
              go_wp2_with fail
              refine (HL.out _).mono ?_
              rintro e w2 ⟨rfl, b2⟩
              have HB2 := Lib.hid (HB.out.trans (b2.mono HB.out.size))
              clear b2
              go_wp2_with fail
              refine (HR.out _ (HG.out.below HB2.out)).mono ?_
              rintro e w3 ⟨rfl, b3⟩
              have HB3 := Lib.hid (HB2.out.trans (b3.mono HB2.out.size))
              clear b3
              by_cases hq : o.size = L.length
              · have q5 : ((o.size : Int) == L.length) = true := by rw [hq]; simp
                have HQ := Lib.hid (show knB L = true by rw [HN.out]; simp [hq])
                clear hq
                go_wp2_with fail
                go_ret
                exact ⟨ret_bool HQ.out.symm, HB3.out⟩
              · have q5 : ((o.size : Int) == L.length) = false := by simpa using fun e => hq (by omega)
                have HQ := Lib.hid (show knB L = false by rw [HN.out]; simp [hq])
                clear hq
                go_wp2_with fail
                go_ret
                exact ⟨ret_bool HQ.out.symm, HB3.out⟩
            · have ho' : onceB m = false := by simpa using ho
              have HL : Hid (∀ W, Calls Try.prog 45 #[.string m] W fun e w' => e = .returned (.bool false) ∧ Below W.heap.size W w') := fun W => by have := letters_any m W hmz; rwa [ho'] at this
              have HN := Lib.hid (show knB L = false from knB_no fun e => ho (by rw [HMN.out]; exact e.2.2.1))
              clear ho ho' h0
              go_wp2_with fail
              refine (HL.out _).mono ?_
              rintro e w2 ⟨rfl, b2⟩
              have HB2 := Lib.hid (HB.out.trans (b2.mono HB.out.size))
              clear b2
              go_wp2_with fail
              go_ret
              exact ⟨ret_bool HN.out.symm, HB2.out⟩
end Go.Proofs.Ytibjldngdhcpaaa
