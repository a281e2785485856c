/-
  Contract of the model's count of jumps that go forward to a block.
-/
import Derived.Test.YtdolbmonmkjajaaGreatJumpMath
import Derived.Test.YtdolbmonmkjajaaGreatSpecDom
import Derived.Test.YtdolbmonmkjajaaGreatValids
namespace Go.Proofs.YtdolbmonmkjajaaGreat
open Go.RowKit Go.Sort

/-- Where the letter of a block stands among names. -/
theorem idx_place {g : List Bl} (hv : validB g = true) {l : List Nat} (hl : ∀ i ∈ l, i < g.length) {t : Nat} (hm : t ∈ l) {c : UInt8} (ht : t < g.length) (hc : g[t].1 = ⟨#[c]⟩) : Lib.indexByte (namesAt g l).data.toList c = (placeIn l t : Int) := by
  obtain ⟨o, ho⟩ := Int.eq_ofNat_of_zero_le ((idx_namesAt hv hl ht hc).2 hm)
  have ho' : Lib.indexByte (namesAt g l).data.toList c = (o : Int) := ho
  obtain ⟨h1, h2⟩ := Lib.indexByte_some ho'
  have hp := placeIn_lt hm
  have hpt := placeIn_get hm
  obtain ⟨_, e1⟩ := namesAt_get hv hl hp
  have e2 : (namesAt g l).data.toList[placeIn l t]? = some c := by
    rw [e1]
    simp only [hpt, hc]; rfl
  have hle : o ≤ placeIn l t := Nat.le_of_not_lt fun h => h2 _ h e2
  have hol : o < l.length := by omega
  obtain ⟨h3, e3⟩ := namesAt_get hv hl hol
  rw [h1] at e3
  obtain ⟨d, hd, _⟩ := valid_one hv (List.getElem_mem h3)
  have hcd : c = d := by
    rw [hd] at e3
    simpa using e3
  have hx : l[o] = t := name_inj hv h3 ht (by rw [hd, hc, hcd])
  have hge : placeIn l t ≤ o := by
    rcases Nat.lt_or_ge o (placeIn l t) with h | h
    · have := List.not_of_lt_findIdx (xs := l) (p := fun y => decide (y = t)) h
      simp [hx] at this
    · exact h
  rw [ho']
  congr 1
  omega

set_option maxRecDepth 100000 in
set_option maxHeartbeats 2000000 in
theorem l4Forward_any (A : Option Addr) (cap : Nat) (g : List Bl) (nm : ByteArray) (t : Nat) (w : World) (hg : Gr w A g) (hn : g.length ≤ 1048576) (hv : validB g = true) (hr : Rch g [] t) (hnm : nm = nthName g t) :
    Calls Tryz.prog 73 #[.slice A g.length cap, .string nm] w fun e w' => e = .returned (.int .i64 (srcL g fwdK t).length) ∧ Below w.heap.size w w' := by
  have h26 := (valid_iff.1 hv).2.1
  have htl := hr.lt hv
  have hz : nm.size = 1 := by rw [hnm]; exact one_size hv htl
  have h0 : 0 < nm.size := by omega
  have hnmc : g[t].1 = ⟨#[nm[0]]⟩ := by
    rw [← nthName_at htl, ← hnm]; exact one_byte hz
  have HO := Lib.hid (l4Order_any A cap g w hg hn hv)
  obtain ⟨o, ho⟩ : ∃ o, o = namesAt g (wayOrd g) := ⟨_, rfl⟩
  have hos : o.size = (wayOrd g).length := by rw [ho]; exact namesAt_size hv _ (wayOrd_lt hv)
  have hol := wayOrd_len hv
  rw [← ho] at HO
  have hpm := (mem_wayOrd hv).2 hr
  have hidx := idx_place hv (wayOrd_lt hv) hpm htl hnmc
  rw [← ho] at hidx
  have hpl := placeIn_lt hpm
  have HCN := Lib.hid (fwd_count hv t)
  obtain ⟨p, hp⟩ : ∃ p, p = placeIn (wayOrd g) t := ⟨_, rfl⟩
  rw [← hp] at hidx hpl
  have hos2 : o.size ≤ 26 := by omega
  have HF : Hid (∀ w, Calls Tryz.prog 53 #[.string o, .int .u8 nm[0].toNat] w fun e w' => e = .returned (.int .i64 p) ∧ w = w') := fun w => by
    rw [← hidx]; exact find_any o nm[0] w (by omega)
  have HPP := Lib.hid (show p = placeN g t from hp)
  have HNC := Lib.hid hnmc
  have HOO := Lib.hid ho
  have HOS := Lib.hid hos
  have HG := Lib.hid hg
  have HV := Lib.hid hv
  clear ho hg hv hos hpm hidx hp hnmc hnm hr
  go_enter Tryz.func73, Tryz.ntmps73
  go_wp2_with fail
  refine HO.out.mono ?_
  rintro e w1 ⟨rfl, b1⟩
  have HB1 := Lib.hid b1
  clear b1
  go_wp2_with fail
  refine (HF.out _).mono ?_
  rintro e w2 ⟨rfl, rfl⟩
  go_wp2_with fail
  go_loopw [6, 14] (fun cv iv wr => ∃ (k c : Nat), k ≤ p ∧ iv = .int .i64 k ∧ cv = .int .i64 c ∧ c ≤ k ∧ Hid (c = (((wayOrd g).take k).filter fun i => decide (t ∈ nxt g i)).length) ∧ Hid (Below w.heap.size w wr)) (fun _ iv _ => p - (intOf iv).toNat)
  case atStart => exact ⟨0, 0, Nat.zero_le _, rfl, rfl, Nat.le_refl _, (show 0 = (((wayOrd g).take 0).filter fun i => decide (t ∈ nxt g i)).length by simp), HB1.out⟩
  case round =>
    obtain ⟨k, c, hk, rfl, rfl, hck, HC, HB⟩ := hrel
    by_cases hlt : k < p
    · have hlt' : k < (wayOrd g).length := by omega
      obtain ⟨x, hx⟩ : ∃ x, x = (wayOrd g)[k] := ⟨_, rfl⟩
      have hxl : x < g.length := hx ▸ wayOrd_lt HV.out _ (List.getElem_mem hlt')
      obtain ⟨_, hcut⟩ := namesAt_cut HV.out (wayOrd_lt HV.out) hlt'
      have hex : o.extract k (k + 1) = nthName g x := by rw [HOO.out, hcut, nthName_at hxl]; congr 2; exact hx.symm
      have hk1 : k + 1 ≤ o.size := by rw [HOS.out]; omega
      have HFT := Lib.hid (filter_take (p := fun i => decide (t ∈ nxt g i)) hlt')
      have HX := Lib.hid hx
      have hga := HG.out.below HB.out
      obtain ⟨nx, hnx⟩ : ∃ nx, nx = g[x].2 := ⟨_, rfl⟩
      have hnx2 : nx.size ≤ 2 := by rw [hnx]; have := nxt_length hxl; have := nxt_two' HV.out hxl; omega
      have cN : ∀ d os, Calls Tryz.prog 108 #[.slice A g.length cap, .string (o.extract k (k + 1))] (grow (redrawn wr d) os) fun e w'' => e = .returned (.string nx) ∧ ∃ p : Regrown, w'' = grow (redrawn wr p.d) p.os := fun d os => by
        have := l1Next_any A cap g (o.extract k (k + 1)) x (grow (redrawn wr d) os) (gr_grown hga d os) hn (by rw [hex, nthName_at hxl]; exact posOf_name HV.out hxl) hxl
        rw [← hnx] at this
        exact Calls.regrown_of this
      obtain ⟨q, hq⟩ : ∃ q, q = Lib.indexByte nx.data.toList nm[0] := ⟨_, rfl⟩
      have cF : ∀ d os, Calls Tryz.prog 53 #[.string nx, .int .u8 nm[0].toNat] (grow (redrawn wr d) os) fun e w'' => e = .returned (.int .i64 q) ∧ ∃ p : Regrown, w'' = grow (redrawn wr p.d) p.os := fun d os => by
        have := same_grown (find_any nx nm[0] (grow (redrawn wr d) os) (by omega))
        rwa [← hq] at this
      have hqm : 0 ≤ q ↔ t ∈ nxt g x := by
        rw [hq, idx_mem, nxt_mem HV.out hxl htl HNC.out, hnx]
      clear hx hcut hex hnx hq hga
      by_cases hin : t ∈ nxt g x
      · have q0 : 0 ≤ q := hqm.2 hin
        have q1 : decide (0 ≤ q) = true := by simpa using q0
        have HC2 := Lib.hid (show c + 1 = (((wayOrd g).take (k + 1)).filter fun i => decide (t ∈ nxt g i)).length by
          rw [HFT.out, ← HX.out, decide_eq_true hin, if_pos rfl, List.length_append, ← HC.out]; rfl)
        clear hqm hin
        go_wp2_with fail
        refine wp_region_quiet_below (by kernel_rfl) (by kernel_rfl) ?_
        repeat (any_goals (first | go_big_quiet_step (first | with_reducible exact cN _ _ | with_reducible exact cF _ _) | quiet_step (first | with_reducible exact cN _ _ | with_reducible exact cF _ _)))
        all_goals (refine wpQuiet_nil ?_; intro _ hw'; obtain ⟨⟨dq, osq⟩, hw''⟩ := hw'; subst hw'')
        have hb2 := below_regrown wr dq osq
        generalize grow (redrawn wr dq) osq = w2 at hb2 ⊢
        have HB2 := Lib.hid (below_trans_self HB.out hb2)
        clear cN cF hb2
        go_wp2_with fail
        go_roundw
        case rel => exact ⟨k + 1, c + 1, by omega, by go_num, by go_num, by omega, HC2.out, HB2.out⟩
        case measure => simp [intOf]; omega
      · have q0 : ¬ 0 ≤ q := fun h => hin (hqm.1 h)
        have q1 : decide (0 ≤ q) = false := by simpa using q0
        have HC2 := Lib.hid (show c = (((wayOrd g).take (k + 1)).filter fun i => decide (t ∈ nxt g i)).length by
          rw [HFT.out, ← HX.out, decide_eq_false hin, if_neg (by simp), List.append_nil, ← HC.out])
        clear hqm hin
        go_wp2_with fail
        refine wp_region_quiet_below (by kernel_rfl) (by kernel_rfl) ?_
        repeat (any_goals (first | go_big_quiet_step (first | with_reducible exact cN _ _ | with_reducible exact cF _ _) | quiet_step (first | with_reducible exact cN _ _ | with_reducible exact cF _ _)))
        all_goals (refine wpQuiet_nil ?_; intro _ hw'; obtain ⟨⟨dq, osq⟩, hw''⟩ := hw'; subst hw'')
        have hb2 := below_regrown wr dq osq
        generalize grow (redrawn wr dq) osq = w2 at hb2 ⊢
        have HB2 := Lib.hid (below_trans_self HB.out hb2)
        clear cN cF hb2
        go_wp2_with fail
        go_roundw
        case rel => exact ⟨k + 1, c, by omega, by go_num, rfl, by omega, HC2.out, HB2.out⟩
        case measure => simp [intOf]; omega
    · have HE := Lib.hid (show (c : Int) = (((srcL g fwdK t).length : Nat) : Int) by
        rw [← HCN.out, ← HPP.out, show p = k by omega, ← HC.out])
      go_wp2_with fail
      go_ret
      exact ⟨ret_int HE.out, HB.out⟩
end Go.Proofs.YtdolbmonmkjajaaGreat
