/-
  The model's l9Reached: the doors that the first knot leads to.
-/
import Derived.Test.YtibjldngdhcpaaaTangle
import Derived.Test.YtibjldngdhcpaaaDoors
namespace Go.Proofs.Ytibjldngdhcpaaa
open Go.RowKit Go.Sort

theorem step_lt_d {g : List Bl} (hv : DG g) {i k : Nat} (hi : i < g.length) {ts : List Nat} (h : ts ⊆ nxt g i) : ∀ x ∈ stepL (bfs g k) ts, x < g.length := by
  intro x hx
  rcases (stepL_mem _ _ _).1 hx with h1 | h1
  · exact bfs_lt_d hv k x h1
  · exact nxt_lt_d hv hi (h h1)
theorem step_le_d {g : List Bl} (hv : DG g) {i k : Nat} (hi : i < g.length) {ts : List Nat} (h : ts ⊆ nxt g i) : (stepL (bfs g k) ts).length ≤ g.length :=
  nodup_lt_len _ _ (stepL_nodup _ _ (bfs_nodup g k)) (step_lt_d hv hi h)
theorem size_get_le {L : List Bl} {i : Nat} (h : i < L.length) : L[i].2.size ≤ tot L := by
  have := tot_get L i h
  have := tot_take_le L (i + 1)
  omega

set_option maxRecDepth 100000 in
set_option maxHeartbeats 2000000 in
theorem reachedS_any (A : Option Addr) (cap : Nat) (L g : List Bl) (w : World) (hL : g = doorG L) (hg : Gr w A L) (hn : L.length + tot L ≤ 1048576) (hv : DG g) (h1 : ∀ b ∈ L, 1 ≤ b.1.size) :
    Calls Try.prog 46 #[.slice A L.length cap] w fun e w' => e = .returned (.string (namesAt g (reach g))) ∧ Below w.heap.size w w' := by
  have hgl : g.length = L.length := by rw [hL, doorG_length]
  have hpos : 0 < L.length := by have := hv.pos; omega
  have HV := Lib.hid hv
  have HG := Lib.hid hg
  have HL := Lib.hid hL
  have H1 := Lib.hid h1
  obtain ⟨b, off, s0, t0, rfl, hb, hc0, hc1, he, he2⟩ := gr_at hg hpos
  have h1s : 1 ≤ s0.size := he ▸ h1 _ (List.getElem_mem hpos)
  have HS := Lib.hid (show s0.extract 0 1 = nthName g 0 by rw [nthName_at (by omega), ← he]; simp only [hL]; rw [doorG_get hpos])
  clear hv hg hL h1 he he2
  have hc0' : w.cell? ⟨b, off, none⟩ = some (.string s0) := by simpa using hc0
  have hc1' : w.cell? ⟨b, off + 1, none⟩ = some (.string t0) := by simpa using hc1
  go_enter Try.func46, Try.ntmps46
  go_wp2_with fail
  go_loopg [3, 4] g.length (fun gk s i wr => ∃ k, gk = g.length - k ∧ k ≤ (bfs g k).length ∧ s = .string (namesAt g (bfs g k)) ∧ i = .int .i64 k ∧ Below w.heap.size w wr)
  case atStart => exact ⟨0, rfl, by simp, by show _ = Value.string (namesAt g [0]); rw [namesAt_one, ← HS.out], rfl, Below.refl _ _⟩
  case round =>
    obtain ⟨k, rfl, hkl, rfl, rfl, hB⟩ := hrel
    have hlen := bfs_len_d HV.out k
    obtain ⟨o, ho⟩ : ∃ o, o = namesAt g (bfs g k) := ⟨_, rfl⟩
    have hos : o.size = (bfs g k).length := by rw [ho, namesAt_size_d HV.out _ (bfs_lt_d HV.out k)]
    rw [← ho]
    by_cases hlt : k < (bfs g k).length
    · obtain ⟨x, hx⟩ : ∃ x, x = (bfs g k)[k] := ⟨_, rfl⟩
      have hxg : x < g.length := hx ▸ bfs_lt_d HV.out k _ (List.getElem_mem hlt)
      have hxl : x < L.length := by omega
      obtain ⟨_, hcut⟩ := namesAt_cut_d HV.out (bfs_lt_d HV.out k) hlt
      have hcut' : o.extract k (k + 1) = g[x].1 := by rw [ho, hcut]; congr 2; exact hx.symm
      have hd : doorI L (o.extract k (k + 1)) = (x : Int) := by unfold doorI; rw [← HL.out, hcut', posOf_name_d HV.out hxg]
      have HN := Lib.hid (show ∀ W, Gr W (some ⟨b, off, none⟩) L → Calls Try.prog 44 #[.slice (some ⟨b, off, none⟩) L.length cap, .string (o.extract k (k + 1))] W fun e w' => e = .returned (.int .i64 x) ∧ Below W.heap.size W w' from fun W h => by
        have := doorS_any (some ⟨b, off, none⟩) cap L (o.extract k (k + 1)) W h hn H1.out
        rw [hd] at this
        exact this)
      have q1 : ((k : Int) < o.size) := by omega
      have hko : k + 1 ≤ o.size := by omega
      have hgx : g[x].2 = L[x].2 := by simp only [HL.out]; rw [doorG_get hxl]
      have hnl : L[x].2.size ≤ tot L := size_get_le hxl
      have HO := Lib.hid ho
      have HX := Lib.hid hx
      have HB := Lib.hid hB
      have HLT := Lib.hid hlt
      have HLEN := Lib.hid hlen
      clear ho hx hcut hcut' hB hd
      go_wp2_with fail
      refine (HN.out _ (HG.out.below HB.out)).mono ?_
      rintro e w2 ⟨rfl, b2⟩
      have HB2 := Lib.hid (HB.out.trans (b2.mono HB.out.size))
      clear b2
      obtain ⟨b', off', s, nx, hA, hb', hx0, hx1, he, he2⟩ := gr_at (HG.out.below HB2.out) hxl
      cases hA
      have HNX := Lib.hid (show nx = g[x].2 by rw [hgx, he2])
      rw [he2] at hnl
      clear he he2 hgx
      go_wp2_with fail
      go_loopw [3, 31] (fun s i wr => ∃ j out, j ≤ nx.size ∧ Hid (out = stepL (bfs g k) ((nxt g x).take j)) ∧ s = .string (namesAt g out) ∧ i = .int .i64 j ∧ Below w.heap.size w wr) (fun _ i _ => nx.size - (intOf i).toNat)
      case atStart => exact ⟨0, bfs g k, Nat.zero_le _, rfl, by rw [HO.out], rfl, HB2.out⟩
      case round =>
        obtain ⟨j, out, hj, HOUT, rfl, rfl, hB3⟩ := hrel
        have hol : ∀ y ∈ out, y < g.length := by rw [HOUT.out]; exact step_lt_d HV.out hxg (List.take_prefix _ _).subset
        have hole : out.length ≤ g.length := by rw [HOUT.out]; exact step_le_d HV.out hxg (List.take_prefix _ _).subset
        obtain ⟨p, hp⟩ : ∃ p, p = namesAt g out := ⟨_, rfl⟩
        have hps : p.size = out.length := by rw [hp, namesAt_size_d HV.out _ hol]
        rw [← hp]
        by_cases hjd : j < nx.size
        · obtain ⟨t, htl, hget, _, hnm⟩ := nxt_get_d HV.out hxg (k := j) (by rw [← HNX.out]; exact hjd)
          have hbyte : g[x].2[j]'(by rw [← HNX.out]; exact hjd) = nx[j] := by congr 1; exact HNX.out.symm
          rw [hbyte] at hnm
          have hidx := idx_namesAt_d HV.out hol htl hnm
          rw [← hp] at hidx
          have HT := Lib.hid (show stepL (bfs g k) ((nxt g x).take (j + 1)) = if t ∈ out then out else out ++ [t] by
            have hjl : j < (nxt g x).length := (List.getElem?_eq_some_iff.1 hget).1
            have e : (nxt g x)[j] = t := (List.getElem?_eq_some_iff.1 hget).2
            rw [List.take_succ_eq_append_getElem hjl, e, stepL_snoc, ← HOUT.out])
          have HPP := Lib.hid hp
          have HB3 := Lib.hid hB3
          have hj1 : j + 1 ≤ nx.size := by omega
          have HEX := Lib.hid (show nx.extract j (j + 1) = nthName g t by rw [ex_byte nx (a := j) (b := j + 1) (by omega) (by omega) (by omega), nthName_at htl, hnm])
          obtain ⟨z, hz⟩ : ∃ z, z = Lib.indexByte p.data.toList nx[j] := ⟨_, rfl⟩
          have HFC : Hid (∀ w, Calls Try.prog 71 #[.string p, .int .u8 nx[j].toNat] w fun e w' => e = .returned (.int .i64 z) ∧ w = w') := fun w => by
            rw [hz]; exact find_any p nx[j] w (by omega)
          rw [← hz] at hidx
          clear hp hbyte hnm hget hB3 hz
          by_cases hin : t ∈ out
          · have q2 : ¬ z < 0 := by have := hidx.2 hin; omega
            rw [if_pos hin] at HT
            clear hidx hin
            go_wp2_with fail
            refine (HFC.out _).mono ?_
            rintro e w4 ⟨rfl, rfl⟩
            go_wp2_with fail
            go_roundw
            case rel => exact ⟨j + 1, out, by omega, HT.out.symm, by rw [HPP.out], by go_num, HB3.out⟩
            case measure => simp [intOf]; omega
          · have q2 : z < 0 := by
              rcases Int.lt_or_le z 0 with h | h
              · exact h
              · exact absurd (hidx.1 h) hin
            rw [if_neg hin] at HT
            have hz2 : p.size + (nx.extract j (j + 1)).size ≤ 1048576 := by rw [HEX.out, nthName_at htl]; obtain ⟨c, hc, _⟩ := HV.out.one _ htl; rw [hc]; show p.size + 1 ≤ _; omega
            have HNX2 := Lib.hid (show namesAt g (out ++ [t]) = p ++ nx.extract j (j + 1) by rw [namesAt_append, namesAt_one, HPP.out, HEX.out])
            clear hidx hin
            go_wp2_with fail
            refine (HFC.out _).mono ?_
            rintro e w4 ⟨rfl, rfl⟩
            go_wp2_with fail
            go_roundw
            case rel => exact ⟨j + 1, out ++ [t], by omega, HT.out.symm, by rw [HNX2.out], by go_num, HB3.out⟩
            case measure => simp [intOf]; omega
        · have hjn : j = nx.size := by omega
          have HBF := Lib.hid (show out = bfs g (k + 1) by rw [HOUT.out, bfs_step HLT.out, ← HX.out, List.take_of_length_le (by rw [nxt_length hxg, ← HNX.out]; omega)])
          have HPP := Lib.hid hp
          have HB3 := Lib.hid hB3
          have hkl2 : k + 1 ≤ out.length := by
            have h1 := (stepL_prefix ((nxt g x).take j) (bfs g k)).length_le
            rw [← HOUT.out] at h1; have := HLT.out; omega
          clear hp hB3
          go_wp2_with fail
          go_roundg (g.length - (k + 1))
          case measure => have := HLEN.out; have := HLT.out; omega
          case rel => exact ⟨k + 1, rfl, by rw [← HBF.out]; exact hkl2, by rw [HPP.out, HBF.out], by go_num, HB3.out⟩
    · have hke : k = (bfs g k).length := by omega
      have HR := Lib.hid (show o = namesAt g (reach g) by rw [ho, reach_done (g := g) (k := k) (by omega) (by omega)])
      have q1 : ¬ ((k : Int) < o.size) := by omega
      have HB := Lib.hid hB
      clear ho hke hB
      go_wp2_with fail
      go_ret
      exact ⟨ret_string HR.out, HB.out⟩
end Go.Proofs.Ytibjldngdhcpaaa
