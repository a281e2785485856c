/-
  The model's doors of a part.
-/
import Derived.Test.YtdpjdhllaokbfaaGreatSpecParts
import Derived.Test.YtdpjdhllaokbfaaGreatPrevOf
namespace Go.Proofs.YtdpjdhllaokbfaaGreat
open Go.RowKit Go.Sort

theorem goesN_nextP {g : List Bl} (hv : validB g = true) {i u : Nat} (hi : i < g.length) (hu : u < g.length) : goesN g[u].1 g[i].2 = decide (u ∈ nxt g i) := by
  obtain ⟨c, hc, _⟩ := valid_one hv (List.getElem_mem hu)
  unfold goesN
  have e : g[u].1.data.toList.getD 0 0 = c := by rw [hc]; rfl
  rw [e, Bool.eq_iff_iff, decide_eq_true_iff, decide_eq_true_iff, idx_mem, nxt_mem hv hi hu hc]
/-- The blocks that go on to one. -/
def prvL (g : List Bl) (u k : Nat) : List Nat := (List.range k).filter fun j => decide (u ∈ nxt g j)
theorem prvL_lt {g : List Bl} {u : Nat} : ∀ i ∈ prvL g u g.length, i < g.length := fun _ hi => List.mem_range.1 (List.mem_filter.1 hi).1
theorem prvL_take {g : List Bl} (hv : validB g = true) {u : Nat} (hu : u < g.length) : ∀ k, k ≤ g.length → prevs (g.take k) g[u].1 = namesAt g (prvL g u k)
  | 0, _ => by simp [prevs, prvL, names, namesAt]
  | k + 1, h => by
    have ih := prvL_take hv hu k (by omega)
    have hk : k < g.length := by omega
    have hg := goesN_nextP hv hk hu
    by_cases hm : u ∈ nxt g k
    · rw [decide_eq_true hm] at hg
      rw [prevs_yes hk hg, ih, show prvL g u (k + 1) = prvL g u k ++ [k] by unfold prvL; rw [List.range_succ, List.filter_append, List.filter_cons, if_pos (by simpa using hm)]; rfl, namesAt_append, namesAt_one, nthName_at hk]
    · rw [decide_eq_false hm] at hg
      rw [prevs_no hk hg, ih, show prvL g u (k + 1) = prvL g u k by unfold prvL; rw [List.range_succ, List.filter_append, List.filter_cons, if_neg (by simpa using hm), List.filter_nil, List.append_nil]]
theorem prvL_all {g : List Bl} (hv : validB g = true) {u : Nat} (hu : u < g.length) : prevs g g[u].1 = namesAt g (prvL g u g.length) := by
  have := prvL_take hv hu g.length (Nat.le_refl _)
  rwa [List.take_length] at this
/-- Whether some block outside goes on to one. -/
def entB (g : List Bl) (P : List Nat) (j k : Nat) : Bool := decide (j = 0) || ((prvL g j g.length).take k).any fun x => !decide (x ∈ P) && decide (x ∈ reachS g)
theorem entB_zero (g : List Bl) (P : List Nat) (j : Nat) : entB g P j 0 = decide (j = 0) := by unfold entB; simp
theorem entB_succ {g : List Bl} {P : List Nat} {j k : Nat} (hk : k < (prvL g j g.length).length) : entB g P j (k + 1) = (entB g P j k || (!decide ((prvL g j g.length)[k] ∈ P) && decide ((prvL g j g.length)[k] ∈ reachS g))) := by
  unfold entB; rw [List.take_succ_eq_append_getElem hk, List.any_append, List.any_cons, List.any_nil, Bool.or_false, Bool.or_assoc]
theorem entB_all {g : List Bl} (hv : validB g = true) {P : List Nat} {j : Nat} : entB g P j (prvL g j g.length).length = doorB g P j := by
  unfold entB doorB
  rw [List.take_length, Bool.eq_iff_iff, Bool.or_eq_true, Bool.or_eq_true, List.any_eq_true, List.any_eq_true]
  refine or_congr Iff.rfl ⟨?_, ?_⟩
  · rintro ⟨x, hx, h⟩
    rw [Bool.and_eq_true, decide_eq_true_eq] at h
    exact ⟨x, h.2, by rw [h.1, (List.mem_filter.1 hx).2]; rfl⟩
  · rintro ⟨x, hx, h⟩
    rw [Bool.and_eq_true] at h
    exact ⟨x, List.mem_filter.2 ⟨List.mem_range.2 (reach_ok hv _ hx), h.2⟩, by rw [h.1, decide_eq_true hx]; rfl⟩

set_option maxRecDepth 100000 in
set_option maxHeartbeats 4000000 in
theorem l10Doors_any (A : Option Addr) (cap : Nat) (g : List Bl) (P : List Nat) (sP : ByteArray) (w : World) (hg : Gr w A g) (hn : g.length + tot g ≤ 1048576) (hv : validB g = true) (hP : ∀ x ∈ P, x < g.length) (hPl : P.length ≤ 1000) (hsP : sP = namesAt g P) :
    Calls Tryz.prog 48 #[.slice A g.length cap, .string sP] w fun e w' => e = .returned (.string (namesAt g (doorsL g P))) ∧ Below w.heap.size w w' := by
  have hg0 : 0 < g.length := (valid_iff.1 hv).1
  have h26 := (valid_iff.1 hv).2.1
  obtain ⟨rs, hrs⟩ : ∃ rs, rs = namesAt g (reachS g) := ⟨_, rfl⟩
  have HRS := Lib.hid hrs
  have HR1 := Lib.hid (fun w (h : Gr w A g) => (l1Reached_any A cap g w h hn hv).mono fun e w' h => show e = .returned (.string rs) ∧ Below w.heap.size w w' from hrs ▸ h)
  have HG := Lib.hid hg
  have HV := Lib.hid hv
  have HP := Lib.hid hP
  have HSP := Lib.hid hsP
  have hPs : sP.size = P.length := by rw [hsP, namesAt_size hv P hP]
  clear hg hv hP hsP hrs
  go_enter Tryz.func48, Tryz.ntmps48
  go_wp2_with fail
  refine (HR1.out w HG.out).mono ?_
  rintro e w1 ⟨rfl, b1⟩
  have HB1 := Lib.hid b1
  clear b1
  go_wp2_with fail
  go_loopw [5, 15] (fun ov iv wr => ∃ k : Nat, k ≤ P.length ∧ iv = .int .i64 k ∧ ov = .string (namesAt g ((P.take k).filter (doorB g P))) ∧ Hid (Below w.heap.size w wr)) (fun _ iv _ => P.length - (intOf iv).toNat)
  case atStart => exact ⟨0, Nat.zero_le _, rfl, rfl, HB1.out⟩
  case round =>
    obtain ⟨k, hk, rfl, rfl, HB⟩ := hrel
    obtain ⟨out, hout⟩ : ∃ out, out = namesAt g ((P.take k).filter (doorB g P)) := ⟨_, rfl⟩
    have hos : out.size ≤ 1000 := by
      rw [hout, namesAt_size HV.out _ (fun x hx => HP.out x (List.mem_of_mem_take (List.mem_filter.1 hx).1))]
      exact Nat.le_trans (List.length_filter_le _ _) (Nat.le_trans (by rw [List.length_take]; omega) hPl)
    have HOUT := Lib.hid hout
    rw [← hout]
    clear hout
    by_cases hlt : k < P.length
    · have hks : k + 1 ≤ sP.size := by omega
      have hki : (k : Int) < sP.size := by omega
      obtain ⟨j, hj⟩ : ∃ j, j = P[k] := ⟨_, rfl⟩
      have hjl : j < g.length := hj ▸ HP.out _ (List.getElem_mem hlt)
      obtain ⟨c, hc, _⟩ := valid_one HV.out (List.getElem_mem hjl)
      have hex : sP.extract k (k + 1) = ⟨#[c]⟩ := by
        rw [HSP.out, ← hc]
        simp only [hj]
        exact (namesAt_cut HV.out HP.out hlt).2
      have hjn : nthName g j = ⟨#[c]⟩ := by rw [nthName_at hjl, hc]
      obtain ⟨b, off, s, t, hA, hb, hc0, _, he, _⟩ := gr_at (HG.out.below HB.out) hg0
      obtain ⟨pj, hpj⟩ : ∃ pj, pj = namesAt g (prvL g j g.length) := ⟨_, rfl⟩
      have HPR := Lib.hid (fun w (h : Gr w A g) => (l1Prev_any A cap g c w h hn).mono fun e w' h => show e = .returned (.string pj) ∧ Below w.heap.size w w' by
        rw [← hc, prvL_all HV.out hjl, ← hpj] at h; exact h)
      have hpz : pj.size = (prvL g j g.length).length := by rw [hpj]; exact namesAt_size HV.out _ prvL_lt
      have hpz2 : pj.size ≤ 26 := by
        have : (prvL g j g.length).length ≤ g.length := by
          have := List.length_filter_le (fun x => decide (j ∈ nxt g x)) (List.range g.length)
          rw [List.length_range] at this
          exact this
        omega
      have hq : ((sP.extract k (k + 1)).toList == s.toList) = entB g P j 0 := by
        rw [hex, entB_zero, Bool.eq_iff_iff, decide_eq_true_eq]
        constructor
        · intro h
          have h2 := beq_toList.1 h
          rw [← hc, ← he] at h2
          exact name_inj HV.out hjl hg0 h2
        · intro h
          refine beq_toList.2 ?_
          rw [← hc, ← he]; congr 2
      subst hA
      have HT := Lib.hid (show (P.take (k + 1)).filter (doorB g P) = (P.take k).filter (doorB g P) ++ (if doorB g P j then [j] else []) by
        rw [List.take_succ_eq_append_getElem hlt, ← hj, List.filter_append, List.filter_cons]
        cases doorB g P j <;> simp)
      have HPJ := Lib.hid hpj
      have HEX := Lib.hid hex
      have HJN := Lib.hid hjn
      obtain ⟨q0, hq0⟩ : ∃ q, q = entB g P j 0 := ⟨_, rfl⟩
      rw [← hq0] at hq
      have HQ0 := Lib.hid hq0
      have hc0' : wr.cell? ⟨b, off, none⟩ = some (.string s) := hc0
      have k0 := cell_regrown hc0'
      have s1 : IntKind.i64.wrap ((k : Int) + 1) = (k : Int) + 1 := IntWalk.i64_in _ (by omega)
      have s2 : ((k : Int) + 1).toNat = k + 1 := by omega
      have s3 : (k : Int) + 1 ≤ sP.size := by omega
      have s4 : (k : Int) ≤ (k : Int) + 1 := by omega
      have s5 : (0 : Int) ≤ (k : Int) + 1 := by omega
      clear hc hpj hex hjn hq0 hj he hb hc0
      go_wp2_with fail
      go_quiet (fail)
      have hb3 := below_drewN wr nq
      have HB4 := Lib.hid (HB.out.trans (hb3.mono HB.out.size))
      generalize wr.drewN nq = w3 at HB4 ⊢
      clear hb3 k0 hc0'
      have HPR2 := Lib.hid (HPR.out w3 (HG.out.below HB4.out))
      rw [← HEX.out] at HPR2
      go_wp2_with fail
      refine HPR2.out.mono ?_
      rintro e w4 ⟨rfl, b4⟩
      have HB5 := Lib.hid (HB4.out.trans (b4.mono HB4.out.size))
      clear b4
      go_wp2_with fail
      go_loopw [8, 37] (fun nv iv wr => ∃ p : Nat, p ≤ (prvL g j g.length).length ∧ iv = .int .i64 p ∧ Hid (nv = .bool (entB g P j p)) ∧ wr = w4) (fun _ iv _ => (prvL g j g.length).length - (intOf iv).toNat)
      case atStart => exact ⟨0, Nat.zero_le _, rfl, (show Value.bool q0 = _ by rw [HQ0.out]), rfl⟩
      case round =>
        obtain ⟨p, hp, rfl, HIN, rfl⟩ := hrel
        obtain ⟨bv, hbv⟩ : ∃ bv, bv = entB g P j p := ⟨_, rfl⟩
        have HBV := Lib.hid hbv
        have HI2 := HIN.out
        rw [← hbv] at HI2
        subst HI2
        clear HIN hbv
        by_cases hpl : p < (prvL g j g.length).length
        · have hps : p < pj.size := by omega
          have hpi : (p : Int) < pj.size := by omega
          obtain ⟨y, hy⟩ : ∃ y, y = (prvL g j g.length)[p] := ⟨_, rfl⟩
          have hyl : y < g.length := hy ▸ prvL_lt _ (List.getElem_mem hpl)
          obtain ⟨d, hd, _⟩ := valid_one HV.out (List.getElem_mem hyl)
          have hbyte : pj[p]'hps = d := by
            obtain ⟨_, _, e⟩ := namesAt_byte HV.out (prvL_lt (g := g) (u := j)) hpl
            have e2 : g[(prvL g j g.length)[p]]'(prvL_lt _ (List.getElem_mem hpl)) = g[y] := by congr 1; exact hy.symm
            rw [e2, hd] at e
            have e3 : (namesAt g (prvL g j g.length))[p]'(by rw [← HPJ.out]; exact hps) = pj[p]'hps := by congr 1; exact HPJ.out.symm
            rw [e3] at e
            injection e with e; simpa using e.symm
          obtain ⟨zP, hzP⟩ : ∃ z, z = Lib.indexByte sP.data.toList d := ⟨_, rfl⟩
          obtain ⟨zR, hzR⟩ : ∃ z, z = Lib.indexByte rs.data.toList d := ⟨_, rfl⟩
          have hiP : 0 ≤ zP ↔ y ∈ P := by rw [hzP, HSP.out]; exact idx_namesAt HV.out HP.out hyl hd
          have hiR : 0 ≤ zR ↔ y ∈ reachS g := by rw [hzR, HRS.out]; exact idx_namesAt HV.out (reach_ok HV.out) hyl hd
          have hrz : rs.size ≤ 26 := by rw [HRS.out, namesAt_size HV.out _ (reach_ok HV.out)]; exact reachS_len HV.out
          have HF1 : Hid (∀ w, Calls Tryz.prog 60 #[.string sP, .int .u8 (pj[p]'hps).toNat] w fun e w' => e = .returned (.int .i64 zP) ∧ w = w') := fun w => by
            rw [hbyte, hzP]
            exact find_any sP d w (by omega)
          have HF2 : Hid (∀ w, Calls Tryz.prog 60 #[.string rs, .int .u8 (pj[p]'hps).toNat] w fun e w' => e = .returned (.int .i64 zR) ∧ w = w') := fun w => by
            rw [hbyte, hzR]
            exact find_any rs d w (by omega)
          have HS := Lib.hid (show entB g P j (p + 1) = (bv || (!decide (y ∈ P) && decide (y ∈ reachS g))) by rw [entB_succ hpl, HBV.out]; simp only [hy])
          clear hzP hzR hbyte hd hy
          cases bv with
          | true =>
            have HS2 := Lib.hid (show Value.bool true = .bool (entB g P j (p + 1)) by rw [HS.out]; rfl)
            clear hiP hiR
            go_wp2_with fail
            go_roundw
            case rel => exact ⟨p + 1, by omega, by go_num, HS2.out, trivial⟩
            case measure => simp [intOf]; omega
          | false =>
            by_cases hzP0 : zP < 0
            · have hnP : y ∉ P := fun h => by have := hiP.2 h; omega
              by_cases hzR0 : 0 ≤ zR
              · have HS2 := Lib.hid (show Value.bool true = .bool (entB g P j (p + 1)) by rw [HS.out, decide_eq_false hnP, decide_eq_true (hiR.1 hzR0)]; rfl)
                have q1 : decide (zP < 0) = true := decide_eq_true hzP0
                have q2 : decide (0 ≤ zR) = true := decide_eq_true hzR0
                clear hiP hiR hnP
                go_wp2_with fail
                refine (HF1.out _).mono ?_
                rintro e w5 ⟨rfl, rfl⟩
                go_wp2_with fail
                refine (HF2.out _).mono ?_
                rintro e w5 ⟨rfl, rfl⟩
                go_wp2_with fail
                go_roundw
                case rel => exact ⟨p + 1, by omega, by go_num, (by first | exact HS2.out | rw [q2]; exact HS2.out), trivial⟩
                case measure => simp [intOf]; omega
              · have HS2 := Lib.hid (show Value.bool false = .bool (entB g P j (p + 1)) by rw [HS.out, decide_eq_false (fun h => hzR0 (hiR.2 h))]; simp)
                have q1 : decide (zP < 0) = true := decide_eq_true hzP0
                have q2 : decide (0 ≤ zR) = false := decide_eq_false hzR0
                clear hiP hiR hnP
                go_wp2_with fail
                refine (HF1.out _).mono ?_
                rintro e w5 ⟨rfl, rfl⟩
                go_wp2_with fail
                refine (HF2.out _).mono ?_
                rintro e w5 ⟨rfl, rfl⟩
                go_wp2_with fail
                go_roundw
                case rel => exact ⟨p + 1, by omega, by go_num, (by first | exact HS2.out | rw [q2]; exact HS2.out), trivial⟩
                case measure => simp [intOf]; omega
            · have hyP : y ∈ P := hiP.1 (by omega)
              have HS2 := Lib.hid (show Value.bool false = .bool (entB g P j (p + 1)) by rw [HS.out, decide_eq_true hyP]; rfl)
              have q1 : decide (zP < 0) = false := decide_eq_false hzP0
              clear hiP hiR hyP
              go_wp2_with fail
              refine (HF1.out _).mono ?_
              rintro e w5 ⟨rfl, rfl⟩
              go_wp2_with fail
              go_roundw
              case rel => exact ⟨p + 1, by omega, by go_num, HS2.out, trivial⟩
              case measure => simp [intOf]; omega
        · have hpe : p = (prvL g j g.length).length := by omega
          have hpi : ¬ (p : Int) < (prvL g j g.length).length := by omega
          have hes : (sP.extract k (k + 1)).size = 1 := by rw [HEX.out]; rfl
          have z1 : out.size + (sP.extract k (k + 1)).size ≤ 1048576 := by omega
          have hdb : bv = doorB g P j := by rw [HBV.out, hpe]; exact entB_all HV.out
          cases bv with
          | true =>
            have HO2 := Lib.hid (show out ++ sP.extract k (k + 1) = namesAt g ((P.take (k + 1)).filter (doorB g P)) by
              rw [HT.out, if_pos hdb.symm, namesAt_append, namesAt_one, ← HOUT.out, HEX.out, HJN.out])
            clear hdb hpe
            go_wp2_with fail
            go_roundw
            case rel => exact ⟨k + 1, by omega, by go_num, by rw [HO2.out], HB5.out⟩
            case measure => simp [intOf]; omega
          | false =>
            have HO2 := Lib.hid (show out = namesAt g ((P.take (k + 1)).filter (doorB g P)) by
              rw [HT.out, if_neg (by rw [← hdb]; simp), List.append_nil, ← HOUT.out])
            clear hdb hpe
            go_wp2_with fail
            go_roundw
            case rel => exact ⟨k + 1, by omega, by go_num, by rw [HO2.out], HB5.out⟩
            case measure => simp [intOf]; omega
    · have HR := Lib.hid (show out = namesAt g (doorsL g P) by rw [HOUT.out, List.take_of_length_le (by omega)]; rfl)
      have hki : ¬ (k : Int) < sP.size := by omega
      go_wp2_with fail
      go_ret
      exact ⟨ret_string HR.out, HB.out⟩
end Go.Proofs.YtdpjdhllaokbfaaGreat
