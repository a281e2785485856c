/-
  The law FnRunOn, walked.
-/
import Derived.Test.YtimgkjlhahapnabDrawRun
import Derived.Test.YtimgkjlhahapnabRunMore
namespace Go.Proofs.Ytimgkjlhahapnab
open Go.RowKit Go.Sort

theorem ba_cut (s : ByteArray) {k : Nat} (_h : k ≤ s.size) : s.extract 0 k ++ s.extract k s.size = s := by
  have := ByteArray.extract_append_extract (a := s) (i := 0) (j := k) (k := s.size)
  rw [this]
  simp

theorem run_cut {g : List Bl} {s : ByteArray} {k : Nat} (hk : k ≤ s.size) (hb : runB g s = true) :
    runB g (s.extract 0 k) = true ∧ (∃ r, runT g s = runT g (s.extract 0 k) ++ r) ∧ (runE g (s.extract 0 k) ≠ 1 → runT g (s.extract 0 k) = runT g s ∧ runE g (s.extract 0 k) = runE g s) := by
  obtain ⟨t, ht⟩ : ∃ t, t = s.extract 0 k := ⟨_, rfl⟩
  obtain ⟨u, hu⟩ : ∃ u, u = s.extract k s.size := ⟨_, rfl⟩
  have hs : t ++ u = s := by rw [ht, hu]; exact ba_cut s hk
  have htz : t.size ≤ s.size := by rw [← hs, ByteArray.size_append]; omega
  rw [← ht]
  have hb0 := hb
  unfold runB at hb0
  obtain ⟨hv, hch⟩ := Bool.and_eq_true_iff.1 hb0
  have hct : choicesB t = true := by
    unfold choicesB isLR at hch ⊢
    obtain ⟨h1, h2⟩ := Bool.and_eq_true_iff.1 hch
    rw [← hs, ByteArray.data_append, Array.toList_append, List.all_append] at h2
    have h3 := of_decide_eq_true h1
    rw [decide_eq_true (by omega : t.size ≤ 20), Bool.true_and]
    exact (Bool.and_eq_true_iff.1 h2).1
  have hb2 := runB_yes hv hct
  refine ⟨hb2, ?_, fun he => ?_⟩
  · rw [runT_yes hb, runT_yes hb2]
    have hp : (runOf g t).map (·.1) <+: (runOf g s).map (·.1) := by
      unfold runOf
      rw [← hs, ByteArray.data_append, Array.toList_append]
      exact runL_less g 60 0 _ _
    obtain ⟨r, hr⟩ := hp
    refine ⟨namesAt g r, ?_⟩
    unfold traceOf
    rw [← namesAt_append, hr]
  · rw [runE_yes hb2] at he
    have hr := runOf_more (g := g) (s := t) (e := u) (by omega)
    rw [hs] at hr
    rw [runT_yes hb, runT_yes hb2, runE_yes hb, runE_yes hb2]
    unfold traceOf endOf
    rw [hr]
    exact ⟨rfl, rfl⟩

set_option maxRecDepth 100000 in
set_option maxHeartbeats 1600000 in
theorem runOn_walk (A : Option Addr) (la ca : Nat) (w : World) (hA : Bytes w A la) (h1 : la ≤ ca) (h3 : ca ≤ 9223372036854775807) :
    Calls Try.prog 8 #[.slice A la ca] w fun e w' => e = .returned (.bool true) ∧ Below w.heap.size w w' := by
  by_cases g1 : (1048576 : Int) < la
  · clear hA
    go_enter Try.func8, Try.ntmps8
    go_wp2_with fail
    go_ret
    exact ⟨rfl, Below.refl _ _⟩
  have HA := Lib.hid (drawRunGraph_any A la ca w hA h1 h3)
  clear hA
  go_enter Try.func8, Try.ntmps8
  go_wp2_with fail
  refine HA.out.mono ?_
  intro e w1 hd1
  obtain ⟨A1, c1, g, s, rfl, hc1, gg, hn1, hs100, b1⟩ := drawnRun_of hd1
  have HB1 := Lib.hid b1
  obtain ⟨x, hx⟩ : ∃ x, x = runT g s := ⟨_, rfl⟩
  obtain ⟨y, hy⟩ : ∃ y, y = runE g s := ⟨_, rfl⟩
  obtain ⟨v, hv⟩ : ∃ v, v = runB g s := ⟨_, rfl⟩
  have HI0 := Lib.hid (fun t w (h : Gr w A1 g) (hz : t.size ≤ 100) => implRun_any A1 c1 g t w h (by omega) (by omega))
  have HI := Lib.hid (fun w (h : Gr w A1 g) => (implRun_any A1 c1 g s w h (by omega) (by omega)).mono fun e w' h => show e = .returned (.tuple #[.string x, .int .i64 y, .bool v]) ∧ Below w.heap.size w w' from hx ▸ hy ▸ hv ▸ h)
  have HS := Lib.hid (fun w (h : Gr w A1 g) => (specRun_any A1 c1 g s w h (by omega) hc1 (by omega)).mono fun e w' h => show e = .returned (.tuple #[.string x, .int .i64 y, .bool v]) ∧ Below w.heap.size w w' from hx ▸ hy ▸ hv ▸ h)
  have HX := Lib.hid hx
  have HY := Lib.hid hy
  have HV := Lib.hid hv
  clear hd1 b1 hx hy hv
  go_wp2_with fail
  refine (HI.out w1 gg).mono ?_
  rintro e w2 ⟨rfl, b2⟩
  have gg2 := gg.below b2
  have HB2 := Lib.hid (below_trans_self HB1.out b2)
  clear b2
  go_wp2_with fail
  refine (HS.out w2 gg2).mono ?_
  rintro e w3 ⟨rfl, b3⟩
  have gg3 := gg2.below b3
  have HB3 := Lib.hid (below_trans_self HB2.out b3)
  clear b3
  cases v with
  | false =>
    have hxe : x = ⟨#[]⟩ := by rw [HX.out, runT_no HV.out.symm]
    subst hxe
    go_wp2_with fail
    go_ret
    exact ⟨rfl, HB3.out⟩
  | true =>
    go_wp2_with fail
    go_loopw [46] (fun i wr => ∃ k : Nat, k ≤ s.size ∧ i = .int .i64 k ∧ Below w.heap.size w wr ∧ Gr wr A1 g) (fun i _ => s.size - (intOf i).toNat)
    case atStart => exact ⟨0, Nat.zero_le _, rfl, HB3.out, gg3⟩
    case round =>
      obtain ⟨k, hk, rfl, hB, ggr⟩ := hrel
      have HB := Lib.hid hB
      clear hB
      by_cases hlt : k < s.size
      · obtain ⟨e3, ⟨r, er⟩, e4⟩ := run_cut (g := g) hk HV.out.symm
        have htz : (s.extract 0 k).size ≤ 100 := by rw [ByteArray.size_extract]; omega
        have hC := HI0.out (s.extract 0 k) wr ggr htz
        unfold RunPost at hC
        rw [e3] at hC
        obtain ⟨f, hf⟩ : ∃ f, f = runT g (s.extract 0 k) := ⟨_, rfl⟩
        obtain ⟨z, hz⟩ : ∃ z, z = runE g (s.extract 0 k) := ⟨_, rfl⟩
        rw [← hf, ← hz] at hC e4
        rw [← hf, ← HX.out] at er
        rw [← HX.out, ← HY.out] at e4
        have HC := Lib.hid hC
        have p1 : f.size ≤ x.size := by rw [er, ByteArray.size_append]; omega
        have p2 : x.extract 0 f.size = f := by rw [er]; exact ByteArray.extract_append_eq_left rfl
        have q1 : decide ((x.size : Int) < f.size) = false := by simp; omega
        have q2 : ((x.extract 0 f.size).toList == f.toList) = true := by rw [p2]; simp
        have q3 : (!((x.extract 0 f.size).toList == f.toList)) = false := by rw [q2]; rfl
        clear hC hf hz er p2 e3 htz
        by_cases hz1 : z = 1
        · have q4 : (z == 1) = true := by rw [hz1]; rfl
          have q5 : (z != 1) = false := by rw [bne, q4]; rfl
          clear hz1 e4
          go_wp2_with fail
          refine HC.out.mono ?_
          rintro e v1 ⟨rfl, d1⟩
          have gv1 := ggr.below d1
          have HD1 := Lib.hid (HB.out.trans (d1.mono HB.out.size))
          clear d1
          go_wp2_with fail
          go_roundw
          case rel => exact ⟨k + 1, by omega, by go_num, HD1.out, gv1⟩
          case measure => simp [intOf]; omega
        · obtain ⟨rfl, rfl⟩ := e4 hz1
          have q4 : (z == 1) = false := by simpa using hz1
          have q6 : (f.toList == f.toList) = true := by simp
          have q7 : (z != z) = false := by simp
          have q5 : (z != 1) = true := by rw [bne, q4]; rfl
          clear hz1
          go_wp2_with fail
          refine HC.out.mono ?_
          rintro e v1 ⟨rfl, d1⟩
          have gv1 := ggr.below d1
          have HD1 := Lib.hid (HB.out.trans (d1.mono HB.out.size))
          clear d1
          go_wp2_with fail
          go_roundw
          case rel => exact ⟨k + 1, by omega, by go_num, HD1.out, gv1⟩
          case measure => simp [intOf]; omega
      · go_wp2_with fail
        go_ret
        exact ⟨rfl, HB.out⟩
end Go.Proofs.Ytimgkjlhahapnab
