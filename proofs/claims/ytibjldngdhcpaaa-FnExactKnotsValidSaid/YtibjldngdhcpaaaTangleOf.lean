/-
  The program's tangleOf and KnotsValid.
-/
import Derived.Test.YtibjldngdhcpaaaReachedT
namespace Go.Proofs.Ytibjldngdhcpaaa
open Go.RowKit Go.Sort Go.Shelf

theorem knB_eq (L : List Bl) : knB L = (decide (0 < L.length) && (apartB L && (buildB L && decide ((reach (doorG L)).length = L.length)))) := by
  rw [Bool.eq_iff_iff, knB_iff]
  simp only [Bool.and_eq_true, decide_eq_true_eq, apartB_iff, buildB_iff]
  constructor
  · rintro ⟨h0, h1, h2, h3, h4⟩
    refine ⟨h0, ⟨fun b hb => ?_, h2⟩, fun b hb => ?_, h4⟩
    · have := h1 b hb
      unfold knotB at this
      simp only [Bool.and_eq_true] at this
      unfold ownB
      rw [Bool.and_eq_true]; exact ⟨this.1, this.2.1⟩
    · have := h1 b hb
      unfold knotB at this
      simp only [Bool.and_eq_true] at this
      exact ⟨this.2.2, h3 b hb⟩
  · rintro ⟨h0, ⟨h1, h2⟩, h3, h4⟩
    refine ⟨h0, fun b hb => ?_, h2, fun b hb => (h3 b hb).2, h4⟩
    have := h1 b hb
    unfold ownB at this
    rw [Bool.and_eq_true] at this
    unfold knotB
    rw [Bool.and_eq_true, Bool.and_eq_true]
    exact ⟨this.1, this.2, (h3 b hb).1⟩
theorem own_size {b : Bl} (h : ownB b = true) : 1 ≤ b.1.size := by
  unfold ownB at h
  simp only [Bool.and_eq_true, decide_eq_true_eq] at h
  omega

def TangleOfPost (w : World) (L : List Bl) (e : Ending) (w' : World) : Prop :=
  (∃ v, e = .returned (.tuple #[v, .bool (knB L)])) ∧ Below w.heap.size w w'

set_option maxRecDepth 100000 in
set_option maxHeartbeats 2000000 in
theorem tangleOf_any (A : Option Addr) (cap : Nat) (L : List Bl) (w : World) (hg : Gr w A L) (hn : L.length + tot L ≤ 1048576) :
    Calls Try.prog 48 #[.slice A L.length cap] w (TangleOfPost w L) := by
  have hT := Blk.new w 99 #[.slice none 0 0]
  have hb1 : Below w.heap.size w (w.alloc (.cells #[.slice none 0 0] 99)) := (Below.refl _ _).alloc (Nat.le_refl _) _
  have HG := Lib.hid (show ∀ W, Below w.heap.size w W → Gr W A L from fun W h => hg.below h)
  have HT := Lib.hid hT
  have HB1 := Lib.hid hb1
  have HKE := Lib.hid (knB_eq L)
  clear hg hT hb1
  by_cases h0 : L.length = 0
  · have q0 : ((L.length : Int) == 0) = true := by rw [h0]; rfl
    have HK := Lib.hid (show knB L = false by rw [HKE.out, decide_eq_false (by omega)]; rfl)
    clear h0
    go_enter Try.func48, Try.ntmps48
    go_wp2_with fail
    go_ret2
    exact ⟨⟨_, by rw [HK.out]; rfl⟩, HB1.out.alloc HB1.out.size _⟩
  · have q0 : ((L.length : Int) == 0) = false := by simpa using h0
    have HP := Lib.hid (show 0 < L.length by omega)
    obtain ⟨r1, hr1⟩ : ∃ r, r = apartB L := ⟨_, rfl⟩
    have HA : Hid (∀ W, Gr W A L → Calls Try.prog 72 #[.slice A L.length cap] W fun e w' => e = .returned (.bool r1) ∧ Below W.heap.size W w') := fun W h => by rw [hr1]; exact apart_any A cap L W h hn
    have HR1 := Lib.hid hr1
    clear h0 hr1
    cases r1 with
    | false =>
      have HK := Lib.hid (show knB L = false by rw [HKE.out, ← HR1.out]; simp)
      go_enter Try.func48, Try.ntmps48
      go_wp2_with fail
      refine (HA.out _ (HG.out _ HB1.out)).mono ?_
      rintro e w2 ⟨rfl, b2⟩
      have HB2 := Lib.hid (HB1.out.trans (b2.mono HB1.out.size))
      clear b2
      go_wp2_with fail
      go_ret2
      exact ⟨⟨_, by rw [HK.out]; rfl⟩, HB2.out.alloc HB2.out.size _⟩
    | true =>
      have H1 := Lib.hid (show ∀ b ∈ L, 1 ≤ b.1.size from fun b hb => own_size ((apartB_iff.1 HR1.out.symm).1 b hb))
      go_enter Try.func48, Try.ntmps48
      go_wp2_with fail
      refine (HA.out _ (HG.out _ HB1.out)).mono ?_
      rintro e w2 ⟨rfl, b2⟩
      have HB2 := Lib.hid (HB1.out.trans (b2.mono HB1.out.size))
      have HT2 := Lib.hid (HT.out.below b2 HT.out.lt)
      have HBU := Lib.hid (build_any A cap L w2 w.heap.size w.heap.size (fun W h => HG.out W (HB2.out.trans h)) hn H1.out HT2.out (Nat.le_refl _))
      clear b2
      go_wp2_with fail
      refine HBU.out.mono ?_
      rintro e w3 ⟨rfl, b3, ht3⟩
      have HB3 := Lib.hid (HB2.out.trans b3)
      cases hb : buildB L with
      | false =>
        have HK := Lib.hid (show knB L = false by rw [HKE.out, hb]; simp)
        clear ht3 hb b3
        go_wp2_with fail
        go_ret2
        exact ⟨⟨_, by rw [HK.out]; rfl⟩, HB3.out.alloc HB3.out.size _⟩
      | true =>
        obtain ⟨r, ns, nx, hl, hTan, hnx⟩ := ht3 hb
        obtain ⟨g, hgg⟩ : ∃ g, g = doorG L := ⟨_, rfl⟩
        have hdg : DG g := hgg ▸ dg_of HP.out H1.out (apartB_iff.1 HR1.out.symm).2 fun b hb' => (buildB_iff.1 hb b hb').2
        have HRE := Lib.hid (reachedT_any hTan hgg hl hn hdg (by rw [hgg]; exact hnx))
        have HKD := Lib.hid (show knB L = decide ((reach g).length = L.length) by rw [HKE.out, ← HR1.out, hb, decide_eq_true HP.out, hgg]; rfl)
        have hle : (reach g).length ≤ L.length := by
          have := bfs_len_d hdg g.length
          rw [hgg, doorG_length] at this
          rw [hgg]; unfold reach; rw [doorG_length]; exact this
        clear ht3 hb hl hTan hnx hgg hdg b3
        go_wp2_with fail
        refine HRE.out.mono ?_
        rintro e w4 ⟨⟨A4, c4, rfl⟩, b4⟩
        have HB4 := Lib.hid (HB3.out.trans (b4.mono HB3.out.size))
        clear b4
        by_cases hq : (reach g).length = L.length
        · have HK := Lib.hid (show knB L = true by rw [HKD.out, decide_eq_true hq])
          have q5 : ¬ ((reach g).length : Int) < L.length := by omega
          clear hq hle
          go_wp2_with fail
          go_ret2
          exact ⟨⟨_, by rw [HK.out]; rfl⟩, HB4.out⟩
        · have HK := Lib.hid (show knB L = false by rw [HKD.out, decide_eq_false hq])
          have q5 : ((reach g).length : Int) < L.length := by omega
          clear hq hle
          go_wp2_with fail
          go_ret2
          exact ⟨⟨_, by rw [HK.out]; rfl⟩, HB4.out.alloc HB4.out.size _⟩
set_option maxRecDepth 100000 in
theorem implKnots_any (A : Option Addr) (cap : Nat) (L : List Bl) (w : World) (hg : Gr w A L) (hn : L.length + tot L ≤ 1048576) :
    Calls Try.prog 14 #[.slice A L.length cap] w fun e w' => e = .returned (.bool (knB L)) ∧ Below w.heap.size w w' := by
  have H := Lib.hid (tangleOf_any A cap L w hg hn)
  clear hg
  go_enter Try.func14, Try.ntmps14
  go_wp2_with fail
  refine H.out.mono ?_
  rintro e w1 ⟨⟨v, rfl⟩, b1⟩
  go_wp2_with fail
  go_ret
  exact ⟨rfl, b1⟩
end Go.Proofs.Ytibjldngdhcpaaa
