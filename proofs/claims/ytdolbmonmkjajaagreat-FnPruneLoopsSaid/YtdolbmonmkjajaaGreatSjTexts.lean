/-
  Contracts of the laws' sjTexts and sjIndex; runs go along jumps: plain facts.
-/
import Derived.Test.YtdolbmonmkjajaaGreatLoopsOf
import Derived.Test.YtdolbmonmkjajaaGreatSpecBack
import Derived.Test.YtdolbmonmkjajaaGreatLaw
namespace Go.Proofs.YtdolbmonmkjajaaGreat
open Go.RowKit Go.Sort

set_option maxRecDepth 100000 in
theorem sjTexts_any (A A' : Option Addr) (cap cap' : Nat) (ps : List ByteArray) (w : World) (hA : Strs w A ps) (hB : Strs w A' ps) (hn : ps.length ≤ 1048576) :
    Calls Tryz.prog 29 #[.slice A ps.length cap, .slice A' ps.length cap'] w fun e w' => e = .returned (.bool true) ∧ Below w.heap.size w w' := by
  have HA := Lib.hid hA
  have HB := Lib.hid hB
  clear hA hB
  go_enter Tryz.func29, Tryz.ntmps29
  go_wp2_with fail
  go_loopw [11] (fun i wr => ∃ k : Nat, k ≤ ps.length ∧ i = .int .i64 k ∧ Hid (Below w.heap.size w wr)) (fun i _ => ps.length - (intOf i).toNat)
  case atStart => exact ⟨0, Nat.zero_le _, rfl, Below.refl _ _⟩
  case round =>
    obtain ⟨k, hk, rfl, HW⟩ := hrel
    by_cases hlt : k < ps.length
    · obtain ⟨b, off, rfl, hb, hc⟩ := HA.out.below HW.out (by omega)
      obtain ⟨b', off', rfl, hb', hc'⟩ := HB.out.below HW.out (by omega)
      have x0 := hc k hlt
      have x1 := hc' k hlt
      obtain ⟨p, hp⟩ : ∃ p, p = ps[k] := ⟨_, rfl⟩
      rw [← hp] at x0 x1
      have k0 := cell_regrown x0
      have k1 := cell_regrown x1
      have q1 : (p.toList == p.toList) = true := by simp
      have q3 : (!(p.toList == p.toList)) = false := by rw [q1]; rfl
      clear hc hc' hp
      go_wp2_with fail
      refine wp_region_quiet_below (by kernel_rfl) (by kernel_rfl) ?_
      repeat (any_goals (first | go_big_quiet_step (fail) | quiet_step (fail)))
      all_goals (refine wpQuiet_nil ?_; intro _ hw'; obtain ⟨⟨dq, osq⟩, hw''⟩ := hw'; subst hw'')
      have hb2 := below_regrown wr dq osq
      generalize grow (redrawn wr dq) osq = w2 at hb2 ⊢
      have HW2 := Lib.hid (below_trans_self HW.out hb2)
      clear k0 k1 x0 x1 hb2
      go_wp2_with fail
      go_roundw
      case rel => exact ⟨k + 1, by omega, by go_num, HW2.out⟩
      case measure => simp [intOf]; omega
    · go_wp2_with fail
      go_ret
      exact ⟨rfl, HW.out⟩

theorem sjIndex_any (g : List Bl) (l : List Nat) (x : Nat) (w : World) (hv : validB g = true) (hl : ∀ i ∈ l, i < g.length) (hx : x < g.length) (hn : l.length ≤ 1048576) :
    Calls Tryz.prog 31 #[.string (namesAt g l), .string (nthName g x)] w fun e w' => e = .returned (.int .i64 (idxN l x)) ∧ w = w' := by
  have hz := namesAt_size hv l hl
  have HCUT := Lib.hid (fun k (hk : k < l.length) => show (namesAt g l).extract k (k + 1) = nthName g l[k] from names_at hv hl hk)
  have HINJ := Lib.hid (fun k (hk : k < l.length) (e : nthName g l[k] = nthName g x) => show l[k] = x from by
    have hkl := hl _ (List.getElem_mem hk)
    rw [nthName_at hkl, nthName_at hx] at e
    exact name_inj hv hkl hx e)
  obtain ⟨s, hs⟩ : ∃ s, s = namesAt g l := ⟨_, rfl⟩
  obtain ⟨c, hc⟩ : ∃ c, c = nthName g x := ⟨_, rfl⟩
  rw [← hs] at hz HCUT ⊢
  rw [← hc] at HINJ ⊢
  have HC := Lib.hid hc
  clear hs hv hl hx hc
  go_enter Tryz.func31, Tryz.ntmps31
  go_wp2_with fail
  go_loop [8] (fun iv => ∃ k : Nat, k ≤ s.size ∧ iv = .int .i64 k ∧ Hid (∀ j (h : j < l.length), j < k → l[j] ≠ x)) (fun iv => s.size - (intOf iv).toNat)
  case atStart => exact ⟨0, Nat.zero_le _, rfl, fun j _ h => absurd h (by omega)⟩
  case round =>
    obtain ⟨k, hk, rfl, HK⟩ := hrel
    by_cases hlt : k < s.size
    · have hk' : k < l.length := by omega
      have hk1 : k + 1 ≤ s.size := by omega
      by_cases he : l[k] = x
      · have t1 : ((s.extract k (k + 1)).toList == c.toList) = true := by rw [HCUT.out k hk', he, HC.out]; simp
        have HR := Lib.hid (show (k : Int) = idxN l x by
          rw [← he]
          exact (idxN_at hk' fun j h hj => by rw [he]; exact HK.out j h hj).symm)
        clear he
        go_wp2_with fail
        go_ret
        exact ⟨ret_int HR.out, rfl⟩
      · have t1 : ((s.extract k (k + 1)).toList == c.toList) = false := by
          rw [Bool.eq_false_iff]
          intro e
          have := beq_toList.1 e
          rw [HCUT.out k hk'] at this
          exact he (HINJ.out k hk' this)
        have HE := Lib.hid he
        clear he
        go_wp2_with fail
        go_round
        case rel =>
          refine ⟨k + 1, by omega, by go_num, fun j h hj => ?_⟩
          rcases Nat.lt_succ_iff_lt_or_eq.1 hj with hj | rfl
          · exact HK.out j h hj
          · exact HE.out
        case measure => simp [intOf]; omega
    · have HR := Lib.hid (show (-1 : Int) = idxN l x from (idxN_no fun hm => by
        obtain ⟨j, hj, e⟩ := List.getElem_of_mem hm
        exact HK.out j hj (by omega) e).symm)
      go_wp2_with fail
      go_ret
      exact ⟨ret_int HR.out, rfl⟩

theorem idxN_way {g : List Bl} (hv : validB g = true) {x : Nat} (hr : Rch g [] x) : idxN (wayOrd g) x = (placeN g x : Int) := by
  unfold idxN; rw [if_pos ((mem_wayOrd hv).2 hr)]; rfl
end Go.Proofs.YtdolbmonmkjajaaGreat
