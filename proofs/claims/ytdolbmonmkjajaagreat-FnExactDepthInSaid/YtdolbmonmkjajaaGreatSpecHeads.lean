/-
  Contracts of the model's headers.
-/
import Derived.Test.YtdolbmonmkjajaaGreatSpecWild
namespace Go.Proofs.YtdolbmonmkjajaaGreat
open Go.RowKit Go.Sort


theorem map_take_snd {L : List (Nat × Nat)} {k : Nat} (h : k < L.length) : (L.take (k + 1)).map (·.2) = (L.take k).map (·.2) ++ [L[k].2] := by
  rw [List.take_succ_eq_append_getElem h, List.map_append]; rfl

theorem ret_s {a b : ByteArray} (h : a = b) : Ending.returned (.string a) = .returned (.string b) := by rw [h]

set_option maxRecDepth 100000 in
set_option maxHeartbeats 2000000 in
theorem l4Headers_any (A : Option Addr) (cap : Nat) (g : List Bl) (w : World) (hg : Gr w A g) (hn : g.length + tot g ≤ 1048576) (hv : validB g = true) :
    Calls Tryz.prog 54 #[.slice A g.length cap] w fun e w' => e = .returned (.string (namesAt g (headL g))) ∧ Below w.heap.size w w' := by
  have HC := Lib.hid (l4Back_any A cap g w hg (by omega) hv)
  have hLl := jumpL_len hv backK
  have HLT := Lib.hid (fun j (hj : j ∈ jumpL g backK) => jumpL_lt hv hj)
  have HE0 := Lib.hid (head_srt hv)
  obtain ⟨L, hL⟩ : ∃ L, L = jumpL g backK := ⟨_, rfl⟩
  rw [← hL] at HC hLl HLT HE0
  have HG := Lib.hid hg
  have HV := Lib.hid hv
  clear hg hv hL
  go_enter Tryz.func54, Tryz.ntmps54
  go_wp2_with fail
  refine HC.out.mono ?_
  rintro e w1 ⟨v, rfl, hown, b1⟩
  obtain ⟨A2, cap2, rfl, -⟩ := own_strs hown
  have hlm : (L.map (jt g)).length = L.length := List.length_map _
  have HLW := Lib.hid hown
  have HB1 := Lib.hid b1
  have HG1 := Lib.hid (HG.out.below b1)
  clear b1 hown
  go_wp2_with fail
  go_loop [3, 9] (fun sv iv => ∃ (k : Nat) (out : ByteArray), k ≤ L.length ∧ iv = .int .i64 k ∧ sv = .string out ∧ out.size = k ∧ Hid (out = namesAt g ((L.take k).map (·.2)))) (fun _ iv => L.length - (intOf iv).toNat)
  case atStart => exact ⟨0, ⟨#[]⟩, Nat.zero_le _, rfl, rfl, rfl, (show (⟨#[]⟩ : ByteArray) = namesAt g ((L.take 0).map (·.2)) from rfl)⟩
  case round =>
    obtain ⟨k, out, hk, rfl, rfl, hoz, HO⟩ := hrel
    by_cases hlt : k < L.length
    · obtain ⟨b, off, rfl, hb, hc⟩ := HLW.out.strs (by omega)
      have x0 := hc k (by omega)
      obtain ⟨j, hj⟩ : ∃ j, j = L[k] := ⟨_, rfl⟩
      obtain ⟨txt, htx⟩ : ∃ txt, txt = jt g j := ⟨_, rfl⟩
      have hget : (L.map (jt g))[k]'(by omega) = txt := by rw [List.getElem_map, htx, hj]
      rw [hget] at x0
      obtain ⟨h1, h2⟩ := HLT.out j (hj ▸ List.getElem_mem hlt)
      obtain ⟨hz, e1, e2⟩ := jt_parts HV.out h1 h2
      rw [← htx] at hz e1 e2
      have l2 : (1 : Int) ≤ txt.size := by omega
      have hez : (txt.extract 1 2).size = 1 := by rw [e2]; exact one_size HV.out h2
      have hez2 : out.size + (txt.extract 1 2).size ≤ 1048576 := by omega
      have HO2 := Lib.hid (show out ++ txt.extract 1 2 = namesAt g ((L.take (k + 1)).map (·.2)) by
        rw [map_take_snd hlt, namesAt_append, namesAt_one, ← HO.out, e2, ← hj])
      clear hc hb hget htx hj e1 e2 h1 h2
      go_wp2_with fail
      go_round
      case rel => exact ⟨k + 1, _, by omega, by go_num, rfl, by rw [ByteArray.size_append]; omega, HO2.out⟩
      case measure => simp [intOf]; omega
    · have HS := Lib.hid (l1Sorted_any A cap g (L.map (·.2)) out w1 HG1.out hn HV.out (fun i hi => by
        obtain ⟨j, hj, rfl⟩ := List.mem_map.1 hi
        exact (HLT.out j hj).2) (by rw [HO.out, List.take_of_length_le (by omega)]) (by omega))
      rw [HE0.out] at HS
      go_wp2_with fail
      refine HS.out.mono ?_
      rintro e w3 ⟨rfl, b3⟩
      have HB3 := Lib.hid (below_trans_self HB1.out b3)
      clear b3
      go_wp2_with fail
      go_ret
      exact ⟨rfl, HB3.out⟩

theorem specHeaders_any (A : Option Addr) (cap : Nat) (g : List Bl) (w : World) (hg : Gr w A g) (hn : g.length + tot g ≤ 1048576) (hcap : g.length ≤ cap) :
    Calls Tryz.prog 26 #[.slice A g.length cap] w fun e w' => e = .returned (.tuple #[.string (headV g), .bool (validB g)]) ∧ Below w.heap.size w w' := by
  have HC := Lib.hid (specValid_any A cap g w hg hn hcap)
  unfold headV
  by_cases hv : validB g = true
  · rw [hv] at HC
    rw [if_pos hv, hv]
    have HB := Lib.hid (fun w' (h : Gr w' A g) => l4Headers_any A cap g w' h hn hv)
    have HG := Lib.hid hg
    clear hg hv
    go_enter Tryz.func26, Tryz.ntmps26
    go_wp2_with fail
    refine HC.out.mono ?_
    rintro e w1 ⟨rfl, b1⟩
    have HL := Lib.hid (HB.out w1 (HG.out.below b1))
    have HB1 := Lib.hid b1
    clear b1
    go_wp2_with fail
    refine HL.out.mono ?_
    rintro e w2 ⟨rfl, b2⟩
    have HB2 := Lib.hid (below_trans_self HB1.out b2)
    clear b2
    go_wp2_with fail
    go_ret2
    exact ⟨rfl, HB2.out⟩
  · have hv : validB g = false := by simpa using hv
    rw [hv] at HC
    rw [if_neg (by rw [hv]; simp), hv]
    clear hg hv
    go_enter Tryz.func26, Tryz.ntmps26
    go_wp2_with fail
    refine HC.out.mono ?_
    rintro e w1 ⟨rfl, b1⟩
    have HB1 := Lib.hid b1
    clear b1
    go_wp2_with fail
    go_ret2
    exact ⟨rfl, HB1.out⟩
end Go.Proofs.YtdolbmonmkjajaaGreat
