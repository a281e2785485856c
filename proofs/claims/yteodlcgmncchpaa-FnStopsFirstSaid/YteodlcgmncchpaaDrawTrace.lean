/-
  Contract of the model's DrawIsTrace.
-/
import Derived.Test.YteodlcgmncchpaaDrawRun
import Derived.Test.YteodlcgmncchpaaSpecRun
import Derived.Deep.RegionWith
import Derived.IntWalk
namespace Go.Proofs.Yteodlcgmncchpaa
open Go.RowKit Go.Sort

theorem runT_small {g : List Bl} {s : ByteArray} (h : runB g s = true) : (runT g s).size ≤ 60 := by
  have hv : validB g = true := by unfold runB at h; exact (Bool.and_eq_true_iff.1 h).1
  rw [runT_yes h]
  unfold traceOf
  rw [namesAt_size hv _ (fun i hi => by
    obtain ⟨y, hy, rfl⟩ := List.mem_map.1 hi
    exact runL_lt hv 60 0 _ (valid_iff.1 hv).1 y hy), List.length_map]
  exact runOf_le g s

theorem own_gr' {w : World} {base cap : Nat} {A : Option Addr} {g : List Bl} (h : OwnBl w base (.slice A g.length cap) g) : Gr w A g := by
  obtain ⟨A', cap', e, _, hg⟩ := own_gr h
  injection e with e1 _ _
  rw [e1]; exact hg

theorem Rd.below' {w w' : World} {R : Nat} {A : Option Addr} {len cap p : Nat} (h : Rd w R A len cap p) (hb : Below w.heap.size w w') : Rd w' R A len cap p := h.below hb
theorem Rd.drew {w : World} {R : Nat} {A : Option Addr} {len cap p : Nat} (h : Rd w R A len cap p) (k : Nat) : Rd (w.drewN k) R A len cap p := h.below (below_drewN w k)

set_option maxRecDepth 100000 in
set_option maxHeartbeats 1600000 in
theorem drawIsTrace_any (A : Option Addr) (len cap : Nat) (w : World) (hb : Bytes w A len) (hlc : len ≤ cap) (hl : cap ≤ 9223372036854775807) :
    Calls Try.prog 39 #[.slice A len cap] w (DrawRunPost 40 100 w) := by
  have HC := Lib.hid (open_any A len cap w hb hlc hl)
  clear hb
  go_enter Try.func39, Try.ntmps39
  go_wp2_with fail
  refine HC.out.mono ?_
  rintro e w1 ⟨A', len', cap', rfl, hrd, b1⟩
  have HR1 := Lib.hid hrd
  have HB := Lib.hid b1
  have hs1 := b1.size
  have hRlt := hrd.blk.lt
  clear hrd b1
  go_wp2_with fail
  refine (some_any w.heap.size A' len' cap' 0 w1 HR1.out (by omega)).mono ?_
  rintro e w2 ⟨v, g, q, rfl, hown, hg, ho, r2, hq⟩
  obtain ⟨A2, cap2, rfl, hc2, _⟩ := own_gr hown
  have HOWN := Lib.hid hown
  have HO2 := Lib.hid ho
  have HR2 := Lib.hid r2
  clear hown ho r2
  have HL2 := Lib.hid (l2Choices_any w.heap.size A' len' cap' q w2 HR2.out (by omega))
  go_wp2_with fail
  refine HL2.out.mono ?_
  rintro e w3 ⟨s, q3, rfl, hs, ho3, r3, hq3⟩
  have HG3 := Lib.hid (own_gr' (ownRow_only HOWN.out hRlt ho3))
  have HO3 := Lib.hid ho3
  have HR3 := Lib.hid r3
  obtain ⟨x, hx⟩ : ∃ x, x = runT g s := ⟨_, rfl⟩
  obtain ⟨y, hy⟩ : ∃ y, y = runE g s := ⟨_, rfl⟩
  obtain ⟨v, hv⟩ : ∃ v, v = runB g s := ⟨_, rfl⟩
  have HS := Lib.hid ((specRun_any A2 cap2 g s w3 HG3.out (by omega) hc2 (by omega)).mono fun e w' h => show e = .returned (.tuple #[.string x, .int .i64 y, .bool v]) ∧ Below w3.heap.size w3 w' from hx ▸ hy ▸ hv ▸ h)
  have HX := Lib.hid hx
  have HV := Lib.hid hv
  clear ho3 r3 hx hy hv
  go_wp2_with fail
  refine HS.out.mono ?_
  rintro e w4 ⟨rfl, b4⟩
  have HO4 := Lib.hid (HO3.out.trans (Only.of_below b4))
  have HR4 := Lib.hid (HR3.out.below' b4)
  clear b4
  cases v with
  | true =>
    have hx60 : x.size ≤ 60 := by rw [HX.out]; exact runT_small HV.out.symm
    have HP := Lib.hid (pick2 w.heap.size A' len' cap' q3 3 _ HR4.out (by omega) (by omega) (by omega))
    go_wp2_with fail
    refine HP.out.mono ?_
    rintro e w5 ⟨m, rfl, hm, o5, r5⟩
    have HO5 := Lib.hid (HO4.out.trans o5)
    have HR5 := Lib.hid r5
    clear o5 r5
    by_cases hm0 : 0 < m
    · have g0 : decide ((0 : Int) < m) = true := by simp; omega
      have hw1 : IntKind.i64.wrap ((x.size : Int) + 1) = ((x.size + 1 : Nat) : Int) := by
        rw [IntWalk.i64_in _ (by omega)]; omega
      have HPD : Hid (Calls Try.prog 75 #[.pointer (some ⟨w.heap.size, 0, none⟩), .int .i64 (IntKind.i64.wrap ((x.size : Int) + 1))] w5.drew (Pick2 w.heap.size A' len' cap' (q3 + 1) (x.size + 1) w5.drew)) := by
        rw [hw1]
        exact pick2 w.heap.size A' len' cap' (q3 + 1) (x.size + 1) (w5.drewN 1) (HR5.out.drew 1) (by omega) (by omega) (by omega)
      have HO5' : Hid (Only w.heap.size w2 w5.drew) := HO5.out.trans (Only.of_below (below_drewN w5 1))
      clear hw1
      go_wp2_with fail
      go_region_with (go_at_call 75; refine HPD.out.mono ?_; rintro e w' ⟨z, rfl, hz, o6, r6⟩)
      all_goals
        have HF := Lib.hid (ownRow_base (ownRow_only HOWN.out hRlt (HO5'.out.trans o6)) hs1)
        have HBF := Lib.hid (Only.below HB.out (HO2.out.trans (HO5'.out.trans o6)))
        clear o6 r6
        go_wp2_with fail
        exact bodyPost_ret (v := .tuple #[.slice A2 g.length cap2, .string (x.extract 0 z)]) (by simp [results, Try.results39, go_sem]) rfl ⟨.slice A2 g.length cap2, g, x.extract 0 z, rfl, HF.out, hg, by rw [ByteArray.size_extract]; omega, HBF.out⟩
    · have g0 : decide ((0 : Int) < m) = false := by simp; omega
      go_wp2_with fail
      have HP6 := Lib.hid (pick2 w.heap.size A' len' cap' (q3 + 1) 6 _ HR5.out (by omega) (by omega) (by omega))
      go_wp2_with fail
      refine HP6.out.mono ?_
      rintro e w6 ⟨n, rfl, hn6, o6, r6⟩
      have HO6 := Lib.hid (HO5.out.trans o6)
      have HR6 := Lib.hid r6
      clear o6 r6
      go_wp2_with fail
      go_loopw [9, 38] (fun s c wr => ∃ (j qq : Nat) (t : ByteArray), j ≤ n ∧ c = .int .i64 j ∧ s = .string t ∧ t.size ≤ 2 * j ∧ qq ≤ (q3 + 1) + 1 + j ∧ Rd wr w.heap.size A' len' cap' qq ∧ Only w.heap.size w2 wr) (fun _ c _ => n - (intOf c).toNat)
      case atStart => exact ⟨0, (q3 + 1) + 1, ⟨#[]⟩, Nat.zero_le _, rfl, rfl, Nat.zero_le _, by omega, HR6.out, HO6.out⟩
      case round =>
        obtain ⟨j, qq, t, hj, rfl, rfl, ht, hqq, hrd, ho⟩ := hrel
        have HRD := Lib.hid hrd
        have HOO := Lib.hid ho
        clear hrd ho
        by_cases hlt : j < n
        · have HL := Lib.hid (any_any w.heap.size A' len' cap' qq wr HRD.out (by omega))
          go_wp2_with fail
          refine HL.out.mono ?_
          rintro e w7 ⟨u, rfl, hu, o7, r7⟩
          have HO7 := Lib.hid (HOO.out.trans o7)
          have HR7 := Lib.hid r7
          clear o7 r7
          go_wp2_with fail
          go_roundw
          case rel => exact ⟨j + 1, qq + 1, _, by omega, by go_num, rfl, by rw [ByteArray.size_append]; omega, by omega, HR7.out, HO7.out⟩
          case measure => simp [intOf]; omega
        · have HF := Lib.hid (ownRow_base (ownRow_only HOWN.out hRlt HOO.out) hs1)
          have HBF := Lib.hid (Only.below HB.out (HO2.out.trans HOO.out))
          go_wp2_with fail
          exact bodyPost_ret (v := .tuple #[.slice A2 g.length cap2, .string t]) (by simp [results, Try.results39, go_sem]) rfl ⟨.slice A2 g.length cap2, g, t, rfl, HF.out, hg, by omega, HBF.out⟩
  | false =>
    go_wp2_with fail
    have HP6 := Lib.hid (pick2 w.heap.size A' len' cap' q3 6 _ HR4.out (by omega) (by omega) (by omega))
    go_wp2_with fail
    refine HP6.out.mono ?_
    rintro e w6 ⟨n, rfl, hn6, o6, r6⟩
    have HO6 := Lib.hid (HO4.out.trans o6)
    have HR6 := Lib.hid r6
    clear o6 r6
    go_wp2_with fail
    go_loopw [9, 38] (fun s c wr => ∃ (j qq : Nat) (t : ByteArray), j ≤ n ∧ c = .int .i64 j ∧ s = .string t ∧ t.size ≤ 2 * j ∧ qq ≤ q3 + 1 + j ∧ Rd wr w.heap.size A' len' cap' qq ∧ Only w.heap.size w2 wr) (fun _ c _ => n - (intOf c).toNat)
    case atStart => exact ⟨0, q3 + 1, ⟨#[]⟩, Nat.zero_le _, rfl, rfl, Nat.zero_le _, by omega, HR6.out, HO6.out⟩
    case round =>
      obtain ⟨j, qq, t, hj, rfl, rfl, ht, hqq, hrd, ho⟩ := hrel
      have HRD := Lib.hid hrd
      have HOO := Lib.hid ho
      clear hrd ho
      by_cases hlt : j < n
      · have HL := Lib.hid (any_any w.heap.size A' len' cap' qq wr HRD.out (by omega))
        go_wp2_with fail
        refine HL.out.mono ?_
        rintro e w7 ⟨u, rfl, hu, o7, r7⟩
        have HO7 := Lib.hid (HOO.out.trans o7)
        have HR7 := Lib.hid r7
        clear o7 r7
        go_wp2_with fail
        go_roundw
        case rel => exact ⟨j + 1, qq + 1, _, by omega, by go_num, rfl, by rw [ByteArray.size_append]; omega, by omega, HR7.out, HO7.out⟩
        case measure => simp [intOf]; omega
      · have HF := Lib.hid (ownRow_base (ownRow_only HOWN.out hRlt HOO.out) hs1)
        have HBF := Lib.hid (Only.below HB.out (HO2.out.trans HOO.out))
        go_wp2_with fail
        exact bodyPost_ret (v := .tuple #[.slice A2 g.length cap2, .string t]) (by simp [results, Try.results39, go_sem]) rfl ⟨.slice A2 g.length cap2, g, t, rfl, HF.out, hg, by omega, HBF.out⟩
end Go.Proofs.Yteodlcgmncchpaa
